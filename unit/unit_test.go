package unit

import (
	"math"
	"math/rand"
	"slices"
	"strings"
	"testing"

	"cotillion/api"
	"cotillion/wire"
)

const last = 1<<40 - 1 // the greatest number of a unit, of the chapter

// one: a unit's bytes: so far behind the one ahead, with these fields.
func one(step uint64, fields ...int64) string {
	return new(wire.Out).Num(step).Int(fields...).Text()
}

// table: a table's bytes, of the next number and of as many units as are laid behind.
func table(next uint64, units ...string) string {
	return new(wire.Out).Num(next).Count(len(units)).Raw(strings.Join(units, "")).Text()
}

// plain: a unit that may be, so far behind the one ahead.
func plain(step uint64) string {
	return one(step, 1, 2, 3, 4, 5)
}

// read: the table of bytes that say one, and nothing else.
func read(t *testing.T, s string) *Table {
	t.Helper()
	i := wire.Open(s)
	x := Read(i)
	if x == nil || i.End() != api.OK {
		t.Fatalf("Read(%x): %d", s, i.Err())
	}
	return x
}

// ids: the numbers, as All tells them.
func ids(x *Table) []int64 {
	var l []int64
	for _, u := range x.All() {
		l = append(l, u.Id)
	}
	return l
}

// mayBe: each field's least and greatest, of the chapter.
func mayBe(field int, x int64) bool {
	least := []int64{0, 0, -1000, -1000, 1}
	greatest := []int64{255, 255, 1000, 1000, 1000}
	return x >= least[field] && x <= greatest[field]
}

// values: the ends of all fields, what stands beside them, and what would be within, if it were cut to fewer bits.
func values() []int64 {
	return []int64{math.MinInt64, -1<<40 + 1, -1 << 32, -1001, -1000, -999, -255, -1, 0, 1, 2, 254, 255, 256, 257, 999, 1000, 1001, 1 << 16, 1 << 32, 1<<32 + 1, 1 << 62, math.MaxInt64}
}

// --- calls ---

// The chapter's numbers.
func TestNumbers(t *testing.T) {
	if Far != 1000 || Hale != 1000 || Kind != 0 || Owner != 1 || PlaceX != 2 || PlaceY != 3 || Health != 4 {
		t.Error("a number is another one")
	}
}

// P8.1: the chapter's example.
func TestExample(t *testing.T) {
	x := New()
	if id := x.Spawn(3, 1, 0, 5); id != 1 {
		t.Fatalf("Spawn: %d", id)
	}
	if u, ok := x.Unit(1); !ok || u != (Unit{1, [5]int64{3, 1, 0, 5, 1000}}) {
		t.Errorf("Unit: %v %v", u, ok)
	}
	if !x.Set(1, Health, 0) || x.Len() != 0 {
		t.Error("it is there still")
	}
}

// P8.1: a new table has none, and each call says so.
func TestNew(t *testing.T) {
	x := New()
	for range 2 {
		if x.Len() != 0 || x.Next() != 1 || len(x.All()) != 0 || x.Text() != "\x01\x00" {
			t.Errorf("New: %d, next %d, %v, %x", x.Len(), x.Next(), x.All(), x.Text())
		}
		for _, n := range values() {
			u, ok := x.Unit(n)
			if ok || u != (Unit{}) || x.Kill(n) || x.Nth(n) != 0 {
				t.Errorf("New: there is one of %d", n)
			}
			for field := range 5 {
				if x.Set(n, field, 1) || x.Set(n, field, 0) {
					t.Errorf("New: Set(%d, %d)", n, field)
				}
			}
		}
	}
	if a, b := New(), New(); a.Spawn(1, 1, 1, 1) != 1 || b.Len() != 0 || b.Next() != 1 {
		t.Error("two tables share something")
	}
}

// P8.1: each field of Spawn at its ends and beyond them; of one that may not be nothing is changed.
func TestSpawnFields(t *testing.T) {
	for field := range 4 {
		for _, v := range values() {
			x := New()
			args := [4]int64{9, 8, 7, 6}
			args[field] = v
			id := x.Spawn(args[0], args[1], args[2], args[3])
			if !mayBe(field, v) {
				if id != 0 || x.Len() != 0 || x.Next() != 1 {
					t.Fatalf("Spawn of %v: %d", args, id)
				}
				continue
			}
			want := Unit{1, [5]int64{args[0], args[1], args[2], args[3], 1000}}
			if u, ok := x.Unit(1); id != 1 || x.Len() != 1 || x.Next() != 2 || u != want || !ok {
				t.Fatalf("Spawn of %v: %d, %v", args, id, u)
			}
		}
	}
}

// P8.1: the 64th is the last one; when one goes, there is place for one more, of a new number.
func TestSpawnLimit(t *testing.T) {
	x := New()
	for k := range int64(64) {
		if id := x.Spawn(1, 1, k, -k); id != k+1 || x.Len() != int(k)+1 || x.Next() != k+2 {
			t.Fatalf("Spawn %d: %d", k, id)
		}
	}
	full := x.Text()
	if x.Spawn(1, 1, 0, 0) != 0 || x.Text() != full || x.Len() != 64 || x.Next() != 65 {
		t.Errorf("the 65th: %d of them, next %d", x.Len(), x.Next())
	}
	if !x.Kill(64) || x.Len() != 63 || x.Next() != 65 || x.Spawn(256, 0, 0, 0) != 0 || x.Spawn(1, 1, 0, 0) != 65 || x.Spawn(1, 1, 0, 0) != 0 {
		t.Errorf("when one has gone: %d of them, next %d", x.Len(), x.Next())
	}
	if !x.Set(7, Health, -3) || x.Spawn(1, 1, 0, 0) != 66 || x.Nth(63) != 66 || x.Nth(6) != 8 {
		t.Errorf("when another one has gone: %v", ids(x))
	}
}

// P8.1, P8.3: 2^40 is the number that none gets, whatever goes.
func TestSpawnAtTheLastNumber(t *testing.T) {
	x := read(t, table(last, plain(5)))
	if x.Next() != last || x.Spawn(1, 2, 3, 4) != last || x.Next() != last+1 || x.Len() != 2 {
		t.Fatalf("the last number: next %d", x.Next())
	}
	before := x.Text()
	if x.Spawn(1, 2, 3, 4) != 0 || x.Text() != before {
		t.Errorf("beyond the last number: %v", ids(x))
	}
	if before != table(last+1, plain(5), one(last-5, 1, 2, 3, 4, 1000)) {
		t.Errorf("Text: %x", before)
	}
	if !x.Kill(last) || x.Next() != last+1 || x.Spawn(1, 2, 3, 4) != 0 || x.Len() != 1 {
		t.Errorf("beyond the last number, when it has gone: %v", ids(x))
	}
	if x := read(t, table(last+1)); x.Spawn(0, 0, 0, 0) != 0 || x.Len() != 0 || x.Next() != last+1 {
		t.Error("of none, beyond the last number")
	}
}

// P8.1: Kill, of the first, one between, the last one, and of such as aren't there.
func TestKill(t *testing.T) {
	for gone := int64(1); gone <= 5; gone++ {
		x := New()
		var want []Unit
		for k := range int64(5) {
			id := x.Spawn(k, k+1, k+2, k+3)
			if u, _ := x.Unit(id); id != gone {
				want = append(want, u)
			}
		}
		before := x.Text()
		for _, id := range []int64{math.MinInt64, -gone, -1, 0, 6, 1<<32 + gone, math.MaxInt64} {
			if x.Kill(id) || x.Text() != before {
				t.Fatalf("Kill(%d)", id)
			}
		}
		if !x.Kill(gone) || x.Len() != 4 || x.Next() != 6 || !slices.Equal(x.All(), want) {
			t.Fatalf("Kill(%d): %v", gone, x.All())
		}
		if u, ok := x.Unit(gone); ok || u != (Unit{}) || x.Kill(gone) || x.Set(gone, PlaceX, 1) || x.Len() != 4 {
			t.Fatalf("it is there still: %v", u)
		}
	}
}

// P8.1: Unit tells the one of that number, zero beside false.
func TestUnit(t *testing.T) {
	x := read(t, table(100, one(3, 255, 0, -1000, 1000, 1), one(4, 0, 255, 1000, -1000, 1000), one(92, 1, 2, 3, 4, 5)))
	for id, want := range map[int64][5]int64{3: {255, 0, -1000, 1000, 1}, 7: {0, 255, 1000, -1000, 1000}, 99: {1, 2, 3, 4, 5}} {
		if u, ok := x.Unit(id); !ok || u != (Unit{id, want}) {
			t.Errorf("Unit(%d): %v %v", id, u, ok)
		}
	}
	for _, id := range []int64{math.MinInt64, -3, 0, 1, 2, 4, 6, 8, 98, 100, 101, 1<<32 + 3, math.MaxInt64} {
		if u, ok := x.Unit(id); ok || u != (Unit{}) {
			t.Errorf("Unit(%d): %v %v", id, u, ok)
		}
	}
}

// P8.1: Set of each field, those that there aren't, too, to each end and beyond it.
func TestSet(t *testing.T) {
	for _, field := range []int{math.MinInt, -1, 0, 1, 2, 3, 4, 5, 6, 256 + 2, 1<<32 + 4, math.MaxInt} {
		for _, v := range values() {
			x := read(t, table(9, plain(1), one(2, 10, 20, 30, 40, 50), plain(5)))
			before := x.All()
			ok := x.Set(3, field, v)
			switch {
			case field < 2 || field > 4:
				if ok || !slices.Equal(x.All(), before) {
					t.Fatalf("Set(3, %d, %d): %v, %v", field, v, ok, x.All())
				}
			case field == Health && v < 1:
				if !ok || !slices.Equal(x.All(), slices.Delete(before, 1, 2)) || x.Next() != 9 {
					t.Fatalf("Set(3, %d, %d): %v, %v", field, v, ok, x.All())
				}
			case !mayBe(field, v):
				if ok || !slices.Equal(x.All(), before) {
					t.Fatalf("Set(3, %d, %d): %v, %v", field, v, ok, x.All())
				}
			default:
				before[1].Fields[field] = v
				if !ok || !slices.Equal(x.All(), before) || x.Next() != 9 {
					t.Fatalf("Set(3, %d, %d): %v, %v", field, v, ok, x.All())
				}
			}
		}
	}
}

// P8.1: Set of one that isn't there, whatever is asked.
func TestSetOfNone(t *testing.T) {
	x := read(t, table(9, plain(1), plain(2)))
	before := x.Text()
	for _, id := range []int64{math.MinInt64, -1, 0, 2, 4, 9, 1<<32 + 1, math.MaxInt64} {
		for field := -1; field < 6; field++ {
			for _, v := range []int64{-5, 0, 1, 100, 5000} {
				if x.Set(id, field, v) || x.Text() != before {
					t.Fatalf("Set(%d, %d, %d)", id, field, v)
				}
			}
		}
	}
}

// P8.1: Nth goes by rising numbers, from 0 on.
func TestNth(t *testing.T) {
	x := read(t, table(100, plain(3), plain(4), plain(92)))
	for n, want := range map[int64]int64{0: 3, 1: 7, 2: 99, 3: 0, 4: 0, 63: 0, 64: 0, -1: 0, -3: 0, 1 << 32: 0, math.MaxInt64: 0, math.MinInt64: 0} {
		if id := x.Nth(n); id != want {
			t.Errorf("Nth(%d): %d, not %d", n, id, want)
		}
	}
	x.Kill(3)
	if x.Nth(0) != 7 || x.Nth(1) != 99 || x.Nth(2) != 0 {
		t.Error("Nth, when the first one has gone")
	}
}

// K3: what is answered isn't changed by later calls, nor the table by what is done with an answer.
func TestSharesNothing(t *testing.T) {
	x := New()
	for k := range int64(4) {
		x.Spawn(k, k, k, k)
	}
	u, _ := x.Unit(2)
	all, text := x.All(), x.Text()
	want := slices.Clone(all)
	x.Set(2, PlaceX, 77)
	x.Kill(1)
	x.Spawn(9, 9, 9, 9)
	if u.Fields[PlaceX] != 1 || !slices.Equal(all, want) || text != table(5, one(1, 0, 0, 0, 0, 1000), one(1, 1, 1, 1, 1, 1000), one(1, 2, 2, 2, 2, 1000), one(1, 3, 3, 3, 3, 1000)) {
		t.Errorf("what was answered: %v, %v, %x", u, all, text)
	}
	before := x.Text()
	other := x.All()
	other[0].Fields[Health] = 1
	_ = append(other[:1], Unit{Id: 50})
	_ = append(x.All(), Unit{Id: 51})
	if x.Text() != before || slices.Equal(x.All(), other) {
		t.Error("a list that was answered is the table's own")
	}
}

// P8.1: how a table is spelt.
func TestText(t *testing.T) {
	x := New()
	x.Spawn(3, 1, 0, 5)
	x.Spawn(255, 128, -1000, 1000)
	x.Spawn(0, 0, -1, 64)
	const first, second, third = "\x06\x02\x00\x0a\xd0\x0f", "\xfe\x03\x80\x02\xcf\x0f\xd0\x0f\xd0\x0f", "\x00\x00\x01\x80\x01\xd0\x0f"
	if s := x.Text(); s != "\x04\x03\x01"+first+"\x01"+second+"\x01"+third {
		t.Errorf("Text: %x", s)
	}
	x.Kill(2)
	if s := x.Text(); s != "\x04\x02\x01"+first+"\x02"+third || x.Text() != s {
		t.Errorf("Text, without 2: %x", s)
	}
	x.Kill(1)
	if s := x.Text(); s != "\x04\x01\x03"+third {
		t.Errorf("Text, without 1: %x", s)
	}
	x.Kill(3)
	if s := x.Text(); s != "\x04\x00" {
		t.Errorf("Text of none: %x", s)
	}
}

// --- Read ---

// P8.1: tables at their ends are read, and just their bytes are taken.
func TestReadAtTheEnds(t *testing.T) {
	many := make([]string, 64)
	for k := range many {
		many[k] = plain(1)
	}
	for _, s := range []string{
		table(1),
		table(1 << 40),
		table(2, plain(1)),
		table(5, plain(4)),
		table(1<<40, plain(last)),
		table(1<<40, plain(1), plain(last-1)),
		table(1<<40, plain(last-1), plain(1)),
		table(65, many...),
		table(9, one(1, 0, 0, -1000, -1000, 1), one(1, 255, 255, 1000, 1000, 1000)),
	} {
		i := wire.Open(s + "\x80z")
		x := Read(i)
		if x == nil || i.Err() != api.OK || i.Raw(2) != "\x80z" || i.End() != api.OK || x.Text() != s {
			t.Errorf("Read(%x): %d", s, i.Err())
		}
	}
	x := read(t, table(65, many...))
	if x.Len() != 64 || x.Nth(63) != 64 || x.Spawn(1, 1, 1, 1) != 0 || !x.Kill(1) || x.Spawn(1, 1, 1, 1) != 65 {
		t.Errorf("of 64: %d, next %d", x.Len(), x.Next())
	}
}

// P8.1: each field that is read, at its ends and beyond them, of the first unit and of another one.
func TestReadFields(t *testing.T) {
	for field := range 5 {
		for _, v := range values() {
			fields := []int64{1, 2, 3, 4, 5}
			fields[field] = v
			for _, s := range []string{table(9, one(1, fields...)), table(9, plain(1), one(1, fields...)), table(9, one(1, fields...), plain(1))} {
				i := wire.Open(s)
				x := Read(i)
				if mayBe(field, v) && (x == nil || i.End() != api.OK || x.Text() != s) {
					t.Fatalf("field %d of %d: %d", field, v, i.Err())
				}
				if !mayBe(field, v) && (x != nil || i.Err() != api.ErrArg) {
					t.Fatalf("field %d of %d: %v, %d", field, v, x, i.Err())
				}
			}
		}
	}
}

// readCase: bytes that are no table, and the error that is told.
type readCase struct {
	name, bytes string
	want        api.Errno
}

func checkCases(t *testing.T, l []readCase) {
	t.Helper()
	for _, c := range l {
		i := wire.Open(c.bytes)
		if x := Read(i); x != nil || i.Err() != c.want || i.Len() != 0 {
			t.Errorf("%s: %v, %d, not %d", c.name, x, i.Err(), c.want)
		}
	}
}

// P8.1: each error of Read.
func TestReadErrors(t *testing.T) {
	const more = "\xff\xff\xff\xff\xff\xff\xff\xff\xff"
	many := make([]string, 65)
	for k := range many {
		many[k] = plain(1)
	}
	checkCases(t, []readCase{
		{"nothing", "", api.ErrEnd},
		{"a next number that goes on", "\x80", api.ErrEnd},
		{"a next number of two spellings", "\x85\x00\x00", api.ErrForm},
		{"a next number above 64 bits", more + "\x02\x00", api.ErrForm},
		{"the next number 2^40 + 1", table(1<<40 + 1), api.ErrBig},
		{"the next number 2^64 - 1", table(math.MaxUint64), api.ErrBig},
		{"no count", "\x05", api.ErrEnd},
		{"a count of two spellings", "\x05\x80\x00", api.ErrForm},
		{"65 units", table(99, many...), api.ErrBig},
		{"2^64 - 1 units", "\x05" + more + "\x01", api.ErrBig},
		{"a unit that isn't there", "\x05\x01", api.ErrEnd},
		{"a second unit that isn't there", "\x05\x02" + plain(1), api.ErrEnd},
		{"a number of two spellings", "\x05\x01\x81\x00" + plain(1)[1:], api.ErrForm},
		{"a number above 2^40", table(9, plain(1<<40+1)), api.ErrBig},
		{"a number above 2^63", table(9, plain(1<<63+1)), api.ErrBig},
		{"a field of two spellings", "\x05\x01\x01\x81\x00", api.ErrForm},
		{"a field above 64 bits", "\x05\x01\x01\x02\x02" + more + "\x02", api.ErrForm},
		{"the number 0", table(9, plain(0)), api.ErrOrder},
		{"the number of the one ahead", table(9, plain(1), plain(0)), api.ErrOrder},
		{"the next number", table(9, plain(9)), api.ErrOrder},
		{"the next number, of the second", table(9, plain(1), plain(8)), api.ErrOrder},
		{"above the next number", table(9, plain(1), plain(100)), api.ErrOrder},
		{"the number 2^40", table(1<<40, plain(1<<40)), api.ErrOrder},
		{"the number 2^40, of two steps", table(1<<40, plain(1), plain(last)), api.ErrOrder},
		{"the number 2^41", table(1<<40, plain(last), plain(1<<40)), api.ErrOrder},
		{"1, of which 1 comes next", table(1, plain(1)), api.ErrOrder},
		{"the next number 0", table(0), api.ErrArg},
	})
}

// P8.1, K2: which of several errors is told: the one that shows first.
func TestReadFirstError(t *testing.T) {
	const bad = "\x81\x00" // a number of two spellings
	checkCases(t, []readCase{
		{"next above 2^40, no count", "\x81\x80\x80\x80\x80\x20", api.ErrBig},
		{"next above 2^40, 65 units", "\x81\x80\x80\x80\x80\x20\x41", api.ErrBig},
		{"next 0, no count", "\x00", api.ErrEnd},
		{"next 0, a bad count", "\x00" + bad, api.ErrForm},
		{"next 0, 65 units", "\x00\x41", api.ErrBig},
		{"next 0, a unit that isn't there", "\x00\x01", api.ErrEnd},
		{"next 0, a unit", table(0, plain(1)), api.ErrOrder},
		{"next 0, a unit with a wrong field", table(0, one(1, 256, 2, 3, 4, 5)), api.ErrArg},
		{"a wrong field, and no more bytes", "\x09\x01\x01\x01", api.ErrArg},
		{"a wrong field, a bad field", "\x09\x01\x01\x01" + bad, api.ErrArg},
		{"a bad field, a wrong field", "\x09\x01\x01" + bad + "\x01\x02\x02\x02", api.ErrForm},
		{"a wrong field, and one that is wanting behind good ones", "\x09\x01\x01\x00\x01\x00\x00", api.ErrArg},
		{"good fields, one that is wanting", "\x09\x01\x01\x00\x00\x00\x00", api.ErrEnd},
		{"the number 0, a wrong field", table(9, one(0, 1, 2, 3, 4, 0)), api.ErrArg},
		{"the number 0, a bad field", "\x09\x01\x00\x00\x00\x00\x00" + bad, api.ErrForm},
		{"the number 0, a field that is wanting", "\x09\x01\x00\x00\x00\x00\x00", api.ErrEnd},
		{"the next number, a wrong field", table(9, one(9, 1, 2, 3, 4, 1001)), api.ErrArg},
		{"a number above 2^40, a wrong field", table(9, one(1<<40+1, -1, 2, 3, 4, 5)), api.ErrBig},
		{"the number 0, a wrong field of the next one", table(9, plain(0), one(1, -1, 2, 3, 4, 5)), api.ErrOrder},
		{"the number 0, no next one", "\x09\x02" + plain(0), api.ErrOrder},
		{"the number 0, a bad next one", "\x09\x02" + plain(0) + bad, api.ErrOrder},
		{"a wrong field, the number 0 of the next one", table(9, one(1, -1, 2, 3, 4, 5), plain(0)), api.ErrArg},
		{"next 0, two units", table(0, plain(1), one(1, -1, 2, 3, 4, 5)), api.ErrOrder},
	})
}

// P8.1: an error that is there ahead stays.
func TestReadBehindError(t *testing.T) {
	for _, e := range []api.Errno{api.ErrEnd, api.ErrForm, api.ErrArg, api.ErrOrder, api.ErrGone} {
		i := wire.Open(table(9, plain(1)))
		i.Fail(e)
		if x := Read(i); x != nil || i.Err() != e {
			t.Errorf("Read behind %d: %v, %d", e, x, i.Err())
		}
	}
}

// P8.1: several tables, one behind the other, which share nothing.
func TestReadOneByOne(t *testing.T) {
	s := table(9, plain(1), plain(2))
	i := wire.Open(s + table(1) + s)
	a, b, c := Read(i), Read(i), Read(i)
	if a == nil || b == nil || c == nil || a.Text() != s || b.Len() != 0 || c.Text() != s {
		t.Fatalf("Read: %d", i.Err())
	}
	a.Set(1, PlaceX, 99)
	a.Kill(3)
	b.Spawn(1, 1, 1, 1)
	if c.Text() != s {
		t.Error("two tables share something")
	}
	if Read(i) != nil || i.Err() != api.ErrEnd {
		t.Errorf("Read of nothing: %d", i.Err())
	}
}

// --- by chance ---

// anyOf: mostly a number within, at times one of the ends or beyond them.
func anyOf(r *rand.Rand, least, greatest int64) int64 {
	if r.Intn(12) == 0 {
		return values()[r.Intn(len(values()))]
	}
	return least + r.Int63n(greatest-least+1)
}

// model: the same table, as the chapter says it, slowly.
type model struct {
	units map[int64][5]int64
	next  int64
}

func (m *model) ids() []int64 {
	var l []int64
	for id := range m.units {
		l = append(l, id)
	}
	slices.Sort(l)
	return l
}

func (m *model) spawn(kind, owner, x, y int64) int64 {
	fields := [5]int64{kind, owner, x, y, 1000}
	for field, v := range fields {
		if !mayBe(field, v) {
			return 0
		}
	}
	if len(m.units) >= 64 || m.next == 1<<40 {
		return 0
	}
	m.units[m.next] = fields
	m.next++
	return m.next - 1
}

func (m *model) kill(id int64) bool {
	_, ok := m.units[id]
	delete(m.units, id)
	return ok
}

func (m *model) set(id int64, field int, x int64) bool {
	fields, ok := m.units[id]
	switch {
	case !ok || field != 2 && field != 3 && field != 4:
		return false
	case field == 4 && x <= 0:
		return m.kill(id)
	case !mayBe(field, x):
		return false
	}
	fields[field] = x
	m.units[id] = fields
	return true
}

func (m *model) text() string {
	var l []string
	var ahead int64
	for _, id := range m.ids() {
		fields := m.units[id]
		l = append(l, one(uint64(id-ahead), fields[:]...))
		ahead = id
	}
	return table(uint64(m.next), l...)
}

// sameAnswers: one call by chance of both; "": they answer the same.
func sameAnswers(r *rand.Rand, x *Table, m *model) string {
	id := m.next - 1 - r.Int63n(80) // one of those that may be there, mostly
	switch r.Intn(8) {
	case 0, 1, 2:
		kind, owner, a, b := anyOf(r, 0, 255), anyOf(r, 0, 31), anyOf(r, -1000, 1000), anyOf(r, -1000, 1000)
		if x.Spawn(kind, owner, a, b) != m.spawn(kind, owner, a, b) {
			return "Spawn"
		}
	case 3:
		if x.Kill(id) != m.kill(id) {
			return "Kill"
		}
	case 4, 5:
		field, v := r.Intn(7)-1, anyOf(r, -20, 1000)
		if x.Set(id, field, v) != m.set(id, field, v) {
			return "Set"
		}
	case 6:
		fields, ok := m.units[id]
		want := Unit{Fields: fields}
		if ok {
			want.Id = id
		}
		if u, got := x.Unit(id); u != want || got != ok {
			return "Unit"
		}
	case 7:
		n := r.Int63n(70) - 2
		var want int64
		if l := m.ids(); n >= 0 && n < int64(len(l)) {
			want = l[n]
		}
		if x.Nth(n) != want {
			return "Nth"
		}
	}
	return ""
}

// P8.1, P8.2: behind any calls, against the model; now and then the table is the one of its bytes.
func TestAnyCalls(t *testing.T) {
	r := rand.New(rand.NewSource(81))
	for round := range 200 {
		x, m := New(), &model{map[int64][5]int64{}, 1}
		if round%4 == 0 { // the last numbers, too
			m.next = 1<<40 - r.Int63n(60)
			x = read(t, table(uint64(m.next)))
		}
		for range 300 {
			if call := sameAnswers(r, x, m); call != "" {
				t.Fatalf("%s isn't that of the model: %x", call, m.text())
			}
			if x.Len() != len(m.units) || x.Next() != m.next || !slices.Equal(ids(x), m.ids()) || x.Text() != m.text() {
				t.Fatalf("Text: %x, not %x", x.Text(), m.text())
			}
			if r.Intn(40) == 0 {
				x = read(t, x.Text())
			}
		}
	}
}

// P8.3: whatever goes, and whether the table is the one of its bytes, the numbers rise, and none comes twice.
func TestNoNumberTwice(t *testing.T) {
	r := rand.New(rand.NewSource(83))
	x := New()
	var before int64
	given := 0
	for range 20000 {
		switch r.Intn(8) {
		case 0:
			x.Kill(x.Nth(r.Int63n(64)))
		case 1:
			x.Kill(before) // the one that came last
		case 2:
			x.Set(x.Nth(r.Int63n(64)), Health, -r.Int63n(2))
		case 3:
			x = read(t, x.Text())
		default:
			next := x.Next()
			id := x.Spawn(anyOf(r, 0, 255), 1, 1, 1)
			if id != 0 && (id <= before || id != next) {
				t.Fatalf("Spawn: %d, behind %d", id, before)
			}
			if id != 0 {
				before = id
				given++
			}
		}
		if x.Next() != before+1 {
			t.Fatalf("Next: %d, behind %d", x.Next(), before)
		}
	}
	if given < 1000 {
		t.Errorf("only %d were spawned", given)
	}
}

// anyTable: of so many spawned ones, some of which have gone.
func anyTable(r *rand.Rand, spawns int) *Table {
	x := New()
	for range spawns {
		id := x.Spawn(r.Int63n(256), r.Int63n(256), r.Int63n(2001)-1000, r.Int63n(2001)-1000)
		x.Set(id, Health, 1+r.Int63n(1000))
		if r.Intn(4) == 0 {
			x.Kill(x.Nth(r.Int63n(64)))
		}
	}
	return x
}

// P8.2: what is read of a table's bytes is that table, and goes on as it does.
func TestThereAndBack(t *testing.T) {
	r := rand.New(rand.NewSource(82))
	for range 1000 {
		x := anyTable(r, r.Intn(100))
		i := wire.Open(x.Text() + "\x01\x00\xff")
		y := Read(i)
		if y == nil || i.Err() != api.OK || i.Raw(3) != "\x01\x00\xff" || i.End() != api.OK {
			t.Fatalf("Read(%x): %d", x.Text(), i.Err())
		}
		if !slices.Equal(x.All(), y.All()) || x.Next() != y.Next() || x.Len() != y.Len() || x.Text() != y.Text() {
			t.Fatalf("Read(%x): %x", x.Text(), y.Text())
		}
		if x.Spawn(1, 1, 1, 1) != y.Spawn(1, 1, 1, 1) || x.Text() != y.Text() {
			t.Fatalf("one more: %x, not %x", y.Text(), x.Text())
		}
		x.Kill(x.Nth(0))
		if x.Len() != max(y.Len()-1, 0) {
			t.Fatal("two tables share something")
		}
	}
}

// P8.1: each end that is cut off a table's bytes is wanting.
func TestReadOfCutBytes(t *testing.T) {
	r := rand.New(rand.NewSource(84))
	for range 40 {
		s := anyTable(r, r.Intn(100)).Text()
		for k := range len(s) {
			i := wire.Open(s[:k])
			if x := Read(i); x != nil || i.Err() != api.ErrEnd {
				t.Fatalf("Read(%x): %d", s[:k], i.Err())
			}
		}
	}
}

// P8.2: of any bytes comes an error, or a table that may be, whose bytes are just those that were taken.
func TestReadOfAnyBytes(t *testing.T) {
	r := rand.New(rand.NewSource(85))
	tables := 0
	for range 40000 {
		b := []byte(anyTable(r, 1+r.Intn(8)).Text())
		for range 1 + r.Intn(3) {
			b[r.Intn(len(b))] = byte(r.Intn(256)) >> r.Intn(8)
		}
		i := wire.Open(string(b))
		x := Read(i)
		if (x == nil) != (i.Err() != api.OK) {
			t.Fatalf("Read(%x): %d", b, i.Err())
		}
		if x == nil {
			continue
		}
		tables++
		if taken := string(b[:len(b)-i.Len()]); x.Text() != taken {
			t.Fatalf("Read(%x): %x", taken, x.Text())
		}
		if !soundTable(x) {
			t.Fatalf("Read(%x): %v, next %d", b, x.All(), x.Next())
		}
	}
	if tables < 1000 {
		t.Errorf("only %d of them were tables", tables)
	}
}

// soundTable: all that the chapter says of a table holds of it.
func soundTable(x *Table) bool {
	var ahead int64
	for _, u := range x.All() {
		if u.Id <= ahead {
			return false
		}
		for field, v := range u.Fields {
			if !mayBe(field, v) {
				return false
			}
		}
		ahead = u.Id
	}
	return ahead < x.Next() && x.Next() <= 1<<40 && x.Len() <= 64
}
