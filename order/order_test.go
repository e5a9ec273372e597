package order

import (
	"math"
	"math/rand"
	"slices"
	"strings"
	"testing"

	"cotillion/api"
	"cotillion/unit"
	"cotillion/wire"
)

const last = 1<<40 - 1 // the greatest number of a unit, of the chapter

// values: the ends of all fields, what stands beside them, and what would be within, if it were cut to fewer bits.
func values() []int64 {
	return []int64{math.MinInt64, -last, -1 << 32, -1001, -1000, -999, -1, 0, 1, 2, 254, 255, 256, 999, 1000, 1001, 1 << 16, 1 << 32, 1<<32 + 1, last - 1, last, last + 1, last + 2, 1 << 62, math.MaxInt64}
}

// kinds: those that there are, and others.
func kinds() []int {
	return []int{math.MinInt, -4, -1, 0, 1, 2, 3, 4, 5, 6, 255, 256 + 1, 1<<32 + 2, math.MaxInt}
}

func within(x, least, greatest int64) bool {
	return least <= x && x <= greatest
}

// slowCheck: the chapter's words, one behind the other.
func slowCheck(o Order) api.Errno {
	if o.Kind < 1 || o.Kind > 4 {
		return api.ErrKind
	}
	wrong := []bool{
		o.Kind != 3 && !within(o.Unit, 1, last),
		o.Kind == 3 && o.Unit != 0,
		o.Kind == 4 && (o.A != 0 || o.B != 0),
		o.Kind == 2 && (!within(o.A, 1, last) || o.B != 0),
		o.Kind == 1 && (!within(o.A, -1000, 1000) || !within(o.B, -1000, 1000)),
		o.Kind == 3 && (!within(o.A, 0, 255) || !within(o.B, -1000, 1000)),
	}
	if slices.Contains(wrong, true) {
		return api.ErrArg
	}
	return api.OK
}

// one: an order's bytes, whatever they say.
func one(kind, id uint64, a, b int64) string {
	return new(wire.Out).Num(kind, id).Int(a, b).Text()
}

// batch: a batch's bytes, of as many orders as are laid behind.
func batch(orders ...string) string {
	return new(wire.Out).Count(len(orders)).Raw(strings.Join(orders, "")).Text()
}

// some: one order of each kind, that may be.
func some() Batch {
	return Batch{{Move, 1, 2, -1}, {Hit, 1, 2, 0}, {Build, 0, 3, -4}, {Halt, 9, 0, 0}}
}

// anyOrder: one that may be.
func anyOrder(r *rand.Rand) Order {
	id, place := 1+r.Int63n(last)>>r.Intn(40), r.Int63n(2001)-1000
	switch r.Intn(4) {
	case 0:
		return Order{Move, id, place, r.Int63n(2001) - 1000}
	case 1:
		return Order{Hit, id, 1 + r.Int63n(last)>>r.Intn(40), 0}
	case 2:
		return Order{Build, 0, r.Int63n(256), place}
	}
	return Order{Halt, id, 0, 0}
}

// anyBatch: one that may be.
func anyBatch(r *rand.Rand) Batch {
	b := make(Batch, r.Intn(9))
	for k := range b {
		b[k] = anyOrder(r)
	}
	return b
}

// --- one order ---

func TestNumbers(t *testing.T) {
	if Move != 1 || Hit != 2 || Build != 3 || Halt != 4 {
		t.Error("a number is another one")
	}
}

// P9.1: Check, of each kind, field by field, at the ends and beyond them.
func TestCheckEdges(t *testing.T) {
	for _, c := range []struct {
		o    Order
		want api.Errno
	}{
		{Order{}, api.ErrKind},
		{Order{0, 1, 0, 0}, api.ErrKind},
		{Order{5, 1, 0, 0}, api.ErrKind},
		{Order{-1, 1, 0, 0}, api.ErrKind},
		{Order{math.MaxInt, 1, 0, 0}, api.ErrKind},
		{Order{5, -1, 5000, 5000}, api.ErrKind}, // ahead of what else is wrong
		{Order{Move, 1, 0, 0}, api.OK},
		{Order{Move, last, 1000, 1000}, api.OK},
		{Order{Move, 1, -1000, -1000}, api.OK},
		{Order{Move, 0, 0, 0}, api.ErrArg},
		{Order{Move, -1, 0, 0}, api.ErrArg},
		{Order{Move, 1 << 40, 0, 0}, api.ErrArg},
		{Order{Move, 1, 1001, 0}, api.ErrArg},
		{Order{Move, 1, -1001, 0}, api.ErrArg},
		{Order{Move, 1, 0, 1001}, api.ErrArg},
		{Order{Move, 1, 0, -1001}, api.ErrArg},
		{Order{Hit, 1, 1, 0}, api.OK},
		{Order{Hit, last, last, 0}, api.OK},
		{Order{Hit, 0, 1, 0}, api.ErrArg},
		{Order{Hit, 1 << 40, 1, 0}, api.ErrArg},
		{Order{Hit, 1, 0, 0}, api.ErrArg},
		{Order{Hit, 1, -1, 0}, api.ErrArg},
		{Order{Hit, 1, 1 << 40, 0}, api.ErrArg},
		{Order{Hit, 1, 2, 1}, api.ErrArg},
		{Order{Hit, 1, 2, -1}, api.ErrArg},
		{Order{Build, 0, 0, -1000}, api.OK},
		{Order{Build, 0, 255, 1000}, api.OK},
		{Order{Build, 1, 0, 0}, api.ErrArg},
		{Order{Build, -1, 0, 0}, api.ErrArg},
		{Order{Build, 0, -1, 0}, api.ErrArg},
		{Order{Build, 0, 256, 0}, api.ErrArg},
		{Order{Build, 0, 0, 1001}, api.ErrArg},
		{Order{Build, 0, 0, -1001}, api.ErrArg},
		{Order{Halt, 1, 0, 0}, api.OK},
		{Order{Halt, last, 0, 0}, api.OK},
		{Order{Halt, 0, 0, 0}, api.ErrArg},
		{Order{Halt, 1 << 40, 0, 0}, api.ErrArg},
		{Order{Halt, 1, 1, 0}, api.ErrArg},
		{Order{Halt, 1, 0, 1}, api.ErrArg},
		{Order{Halt, 1, -1, 0}, api.ErrArg},
	} {
		if e := c.o.Check(); e != c.want {
			t.Errorf("Check of %v: %d, not %d", c.o, e, c.want)
		}
	}
}

// P9.1: Check, of all ends together, against the chapter's words.
func TestCheck(t *testing.T) {
	for _, kind := range kinds() {
		for _, id := range values() {
			for _, a := range values() {
				for _, b := range values() {
					o := Order{kind, id, a, b}
					if e := o.Check(); e != slowCheck(o) {
						t.Fatalf("Check of %v: %d, not %d", o, e, slowCheck(o))
					}
				}
			}
		}
	}
}

// units: 1 and 2 of player 0, 4 and 5 of player 7, 6 of player 255; 3 has gone.
func units() *unit.Table {
	x := unit.New()
	for _, owner := range []int64{0, 0, 0, 7, 7, 255} {
		x.Spawn(1, owner, 0, 0)
	}
	x.Kill(3)
	return x
}

// P9.1: Valid, of each kind, and which error is told first.
func TestValid(t *testing.T) {
	for _, c := range []struct {
		o      Order
		player int64
		want   api.Errno
	}{
		{Order{Move, 1, 5, 5}, 0, api.OK},
		{Order{Move, 4, 5, 5}, 7, api.OK},
		{Order{Move, 6, 5, 5}, 255, api.OK},
		{Order{Move, 1, 5, 5}, 7, api.ErrPlayer},
		{Order{Move, 4, 5, 5}, 0, api.ErrPlayer},
		{Order{Move, 4, 5, 5}, 1<<32 + 7, api.ErrPlayer},
		{Order{Move, 6, 5, 5}, -1, api.ErrPlayer},
		{Order{Move, 3, 5, 5}, 0, api.ErrNone},
		{Order{Move, 7, 5, 5}, 0, api.ErrNone},
		{Order{Move, last, 5, 5}, 0, api.ErrNone},
		{Order{Move, 1, 1001, 5}, 0, api.ErrArg},
		{Order{Move, 4, 1001, 5}, 0, api.ErrArg}, // ahead of whose it is
		{Order{Move, 3, 1001, 5}, 0, api.ErrArg}, // and of whether it is there
		{Order{Move, 0, 5, 5}, 0, api.ErrArg},
		{Order{5, 3, 5, 5}, 0, api.ErrKind},
		{Order{0, 1, 5, 5}, 0, api.ErrKind},
		{Order{Halt, 1, 0, 0}, 0, api.OK},
		{Order{Halt, 5, 0, 0}, 0, api.ErrPlayer},
		{Order{Halt, 3, 0, 0}, 0, api.ErrNone},
		{Order{Halt, 3, 1, 0}, 0, api.ErrArg},
		{Order{Hit, 1, 4, 0}, 0, api.OK},
		{Order{Hit, 4, 1, 0}, 7, api.OK},
		{Order{Hit, 4, 6, 0}, 7, api.OK},
		{Order{Hit, 1, 2, 0}, 0, api.ErrPlayer},
		{Order{Hit, 1, 1, 0}, 0, api.ErrPlayer},
		{Order{Hit, 4, 5, 0}, 7, api.ErrPlayer},
		{Order{Hit, 1, 3, 0}, 0, api.ErrNone},
		{Order{Hit, 1, 99, 0}, 0, api.ErrNone},
		{Order{Hit, 3, 4, 0}, 0, api.ErrNone},
		{Order{Hit, 3, 1, 0}, 0, api.ErrNone},   // ahead of whose A is
		{Order{Hit, 4, 3, 0}, 0, api.ErrPlayer}, // whose Unit is, ahead of whether A is there
		{Order{Hit, 4, 1, 0}, 0, api.ErrPlayer},
		{Order{Hit, 4, 6, 0}, 0, api.ErrPlayer},
		{Order{Hit, 1, 0, 0}, 0, api.ErrArg},
		{Order{Build, 0, 9, 9}, 0, api.OK},
		{Order{Build, 0, 9, 9}, 99, api.OK},
		{Order{Build, 0, 9, 9}, -5, api.OK},
		{Order{Build, 0, 256, 9}, 0, api.ErrArg},
		{Order{Build, 1, 9, 9}, 0, api.ErrArg},
	} {
		x := units()
		before := x.Text()
		if e := c.o.Valid(x, c.player); e != c.want || x.Text() != before {
			t.Errorf("Valid of %v, player %d: %d, not %d", c.o, c.player, e, c.want)
		}
	}
	for _, o := range some()[:2] {
		if e := o.Valid(unit.New(), 0); e != api.ErrNone {
			t.Errorf("Valid of %v, of no units: %d", o, e)
		}
	}
	if e := some()[2].Valid(unit.New(), 0); e != api.OK {
		t.Errorf("Valid of Build, of no units: %d", e)
	}
}

// slowValid: the chapter's words, one behind the other.
func slowValid(o Order, owners map[int64]int64, player int64) api.Errno {
	owner, there := owners[o.Unit]
	target, targetThere := owners[o.A]
	switch e := slowCheck(o); {
	case e != api.OK:
		return e
	case o.Kind == 3:
		return api.OK
	case !there:
		return api.ErrNone
	case owner != player:
		return api.ErrPlayer
	case o.Kind == 2 && !targetThere:
		return api.ErrNone
	case o.Kind == 2 && target == player:
		return api.ErrPlayer
	}
	return api.OK
}

// P9.1: Valid, of all that may be asked of a few units.
func TestValidOfAll(t *testing.T) {
	x := units()
	owners := map[int64]int64{1: 0, 2: 0, 4: 7, 5: 7, 6: 255}
	for kind := -1; kind < 6; kind++ {
		for id := int64(-1); id < 9; id++ {
			for a := int64(-1); a < 9; a++ {
				for b := int64(-1); b < 2; b++ {
					for _, player := range []int64{math.MinInt64, -1, 0, 1, 7, 255, 256, math.MaxInt64} {
						o := Order{kind, id, a, b}
						if e := o.Valid(x, player); e != slowValid(o, owners, player) {
							t.Fatalf("Valid of %v, player %d: %d, not %d", o, player, e, slowValid(o, owners, player))
						}
					}
				}
			}
		}
	}
}

// --- batches ---

// P9.1: a batch's Check: more than eight first, then the first order that may not be.
func TestBatchCheck(t *testing.T) {
	good, kind, arg := Order{Build, 0, 1, 1}, Order{Kind: 9}, Order{Kind: Move}
	many := func(n int, o Order) Batch { return slices.Repeat(Batch{o}, n) }
	for k, c := range []struct {
		b    Batch
		want api.Errno
	}{
		{nil, api.OK},
		{Batch{}, api.OK},
		{some(), api.OK},
		{many(7, good), api.OK},
		{many(8, good), api.OK},
		{many(9, good), api.ErrFull},
		{many(1000, good), api.ErrFull},
		{many(9, kind), api.ErrFull},
		{append(many(8, good), arg), api.ErrFull},
		{append(Batch{arg}, many(8, good)...), api.ErrFull},
		{Batch{kind}, api.ErrKind},
		{Batch{arg}, api.ErrArg},
		{Batch{arg, kind}, api.ErrArg},
		{Batch{kind, arg}, api.ErrKind},
		{Batch{good, arg, kind}, api.ErrArg},
		{Batch{good, kind, good, arg}, api.ErrKind},
		{append(many(7, good), arg), api.ErrArg},
		{append(many(7, good), kind), api.ErrKind},
	} {
		if e := c.b.Check(); e != c.want {
			t.Errorf("Check %d: %d, not %d", k, e, c.want)
		}
	}
}

// P9.1: the first eight, in their order, in new memory.
func TestOf(t *testing.T) {
	r := rand.New(rand.NewSource(91))
	for n := range 20 {
		var l []Order
		for range n {
			l = append(l, Order{r.Intn(9) - 2, r.Int63() - 5, -r.Int63(), r.Int63()}) // those that may not be, too
		}
		was := slices.Clone(l)
		b := Of(l...)
		if !slices.Equal(b, was[:min(n, 8)]) || !slices.Equal(l, was) {
			t.Fatalf("Of %v: %v", was, b)
		}
		for k := range b {
			b[k].A++
		}
		_ = append(b, Order{Kind: 77})
		if !slices.Equal(l, was) {
			t.Fatal("Of: the batch is the list itself")
		}
	}
	if len(Of()) != 0 || len(Of(nil...)) != 0 || len(Of([]Order{}...)) != 0 {
		t.Error("Of none")
	}
}

// P9.1: how a batch is spelt.
func TestText(t *testing.T) {
	for _, c := range []struct {
		b    Batch
		want string
	}{
		{nil, "\x00"},
		{Batch{}, "\x00"},
		{Batch{{Move, 1, 2, -1}}, "\x01\x01\x01\x04\x01"}, // the chapter's example
		{Batch{{Move, 300, -1000, 1000}}, "\x01\x01\xac\x02\xcf\x0f\xd0\x0f"},
		{Batch{{Hit, 5, 64, 0}}, "\x01\x02\x05\x80\x01\x00"},
		{Batch{{Build, 0, 255, -64}}, "\x01\x03\x00\xfe\x03\x7f"},
		{Batch{{Halt, last, 0, 0}}, "\x01\x04\xff\xff\xff\xff\xff\x1f\x00\x00"},
		{Batch{{Hit, 1, last, 0}}, "\x01\x02\x01\xfe\xff\xff\xff\xff\x3f\x00"},
		{some(), "\x04\x01\x01\x04\x01\x02\x01\x04\x00\x03\x00\x06\x07\x04\x09\x00\x00"},
		{slices.Repeat(Batch{{Halt, 1, 0, 0}}, 8), "\x08" + strings.Repeat("\x04\x01\x00\x00", 8)},
	} {
		if s := c.b.Text(); s != c.want {
			t.Errorf("Text of %v: %x, not %x", c.b, s, c.want)
		}
		var w wire.Out
		c.b.Put(w.Raw("ab"))
		c.b.Put(&w)
		if s := w.Text(); s != "ab"+c.want+c.want {
			t.Errorf("Put of %v: %x", c.b, s)
		}
	}
}

// K3: no call changes its batch.
func TestBatchStays(t *testing.T) {
	b := some()
	b.Check()
	b.Put(new(wire.Out))
	_ = b.Text()
	if !slices.Equal(b, some()) {
		t.Errorf("the batch: %v", b)
	}
}

// --- Read, Parse ---

// readCase: bytes that are no batch, and the error that is told.
type readCase struct {
	name, bytes string
	want        api.Errno
}

func checkCases(t *testing.T, l []readCase) {
	t.Helper()
	for _, c := range l {
		i := wire.Open(c.bytes)
		if b := Read(i); b != nil || i.Err() != c.want || i.Len() != 0 {
			t.Errorf("Read, %s: %v, %d, not %d", c.name, b, i.Err(), c.want)
		}
		if b, e := Parse(c.bytes); b != nil || e != c.want {
			t.Errorf("Parse, %s: %v, %d, not %d", c.name, b, e, c.want)
		}
	}
}

// P9.1: each error of Read, and of Parse.
func TestReadErrors(t *testing.T) {
	const more = "\xff\xff\xff\xff\xff\xff\xff\xff\xff"
	halt := one(Halt, 1, 0, 0)
	checkCases(t, []readCase{
		{"nothing", "", api.ErrEnd},
		{"a count that goes on", "\x80", api.ErrEnd},
		{"a count of two spellings", "\x80\x00", api.ErrForm},
		{"nine orders", batch(slices.Repeat([]string{halt}, 9)...), api.ErrBig},
		{"nine orders, and no bytes", "\x09", api.ErrBig},
		{"2^64 - 1 orders", more + "\x01", api.ErrBig},
		{"an order that isn't there", "\x01", api.ErrEnd},
		{"a second order that isn't there", "\x02" + halt, api.ErrEnd},
		{"a kind of two spellings", "\x01\x84\x00\x01\x00\x00", api.ErrForm},
		{"the kind 5", batch(one(5, 1, 0, 0)), api.ErrBig},
		{"the kind 2^64 - 1", batch(one(math.MaxUint64, 1, 0, 0)), api.ErrBig},
		{"the kind 0", batch(one(0, 1, 0, 0)), api.ErrKind},
		{"no Unit", "\x01\x04", api.ErrEnd},
		{"a Unit of two spellings", "\x01\x04\x81\x00\x00\x00", api.ErrForm},
		{"the Unit 0", batch(one(Halt, 0, 0, 0)), api.ErrArg},
		{"the Unit 2^40", batch(one(Halt, 1<<40, 0, 0)), api.ErrArg},
		{"the Unit 2^40 + 1", batch(one(Halt, 1<<40+1, 0, 0)), api.ErrBig},
		{"the Unit 2^63 + 1", batch(one(Halt, 1<<63+1, 0, 0)), api.ErrBig},
		{"no A", "\x01\x04\x01", api.ErrEnd},
		{"an A of two spellings", "\x01\x04\x01\x80\x00\x00", api.ErrForm},
		{"no B", "\x01\x04\x01\x00", api.ErrEnd},
		{"a B of two spellings", "\x01\x04\x01\x00\x80\x00", api.ErrForm},
		{"a B above 64 bits", "\x01\x04\x01\x00" + more + "\x02", api.ErrForm},
		{"Move too far", batch(one(Move, 1, 1001, 0)), api.ErrArg},
		{"Move too far, in y", batch(one(Move, 1, 0, -1001)), api.ErrArg},
		{"Hit of none", batch(one(Hit, 1, 0, 0)), api.ErrArg},
		{"Hit of 2^40", batch(one(Hit, 1, 1<<40, 0)), api.ErrArg},
		{"Hit with a B", batch(one(Hit, 1, 2, 1)), api.ErrArg},
		{"Build of a Unit", batch(one(Build, 1, 0, 0)), api.ErrArg},
		{"Build of the kind 256", batch(one(Build, 0, 256, 0)), api.ErrArg},
		{"Halt with an A", batch(one(Halt, 1, 1, 0)), api.ErrArg},
		{"the second one is wrong", batch(halt, one(Halt, 1, 1, 0)), api.ErrArg},
		{"the eighth one is wrong", batch(append(slices.Repeat([]string{halt}, 7), one(0, 1, 0, 0))...), api.ErrKind},
	})
}

// P9.1, K2: which of several errors is told: the one that comes first in the bytes, an order's Check behind its own.
func TestReadFirstError(t *testing.T) {
	const bad = "\x81\x00" // a number of two spellings
	halt, kind, arg := one(Halt, 1, 0, 0), one(0, 1, 0, 0), one(Halt, 1, 1, 0)
	checkCases(t, []readCase{
		{"nine orders, the first one wrong", "\x09" + kind, api.ErrBig},
		{"the kind 0, and no more", "\x01\x00", api.ErrEnd},
		{"the kind 0, a bad Unit", "\x01\x00" + bad, api.ErrForm},
		{"the kind 0, a Unit above 2^40", batch(one(0, 1<<40+1, 0, 0)), api.ErrBig},
		{"the kind 0, a bad B", "\x01\x00\x01\x00" + bad, api.ErrForm},
		{"the kind 0, no B", "\x01\x00\x01\x00", api.ErrEnd},
		{"the kind 0, a wrong Unit", batch(one(0, 0, 0, 0)), api.ErrKind},
		{"the kind 5, and no more", "\x01\x05", api.ErrBig},
		{"the kind 5, a bad Unit", "\x01\x05" + bad, api.ErrBig},
		{"the Unit 0, and no more", "\x01\x04\x00", api.ErrEnd},
		{"the Unit 0, a bad A", "\x01\x04\x00" + bad, api.ErrForm},
		{"a Unit above 2^40, and no more", "\x01\x04\x81\x80\x80\x80\x80\x20", api.ErrBig},
		{"a wrong A, no B", "\x01\x04\x01\x02", api.ErrEnd},
		{"a wrong A, a bad B", "\x01\x04\x01\x02" + bad, api.ErrForm},
		{"a wrong order, no next one", "\x02" + arg, api.ErrArg},
		{"a wrong order, a bad next one", "\x02" + arg + bad, api.ErrArg},
		{"a wrong order, a next one of the kind 5", batch(arg, one(5, 1, 0, 0)), api.ErrArg},
		{"a wrong order, a next one of the kind 0", batch(arg, kind), api.ErrArg},
		{"the kind 0, a wrong next one", batch(kind, arg), api.ErrKind},
		{"the kind 0, no next one", "\x02" + kind, api.ErrKind},
		{"a good order, a bad next one, a wrong one", "\x03" + halt + bad + arg, api.ErrForm},
	})
}

// P9.1: what stands behind is left by Read, and is wrong for Parse, but told behind Read's errors.
func TestWhatIsLeft(t *testing.T) {
	for _, b := range []Batch{{}, some()} {
		for _, more := range []string{"\x00", "z", "\x80", b.Text()} {
			i := wire.Open(b.Text() + more)
			if c := Read(i); c == nil && len(b) > 0 || !slices.Equal(c, b) || i.Err() != api.OK || i.Raw(len(more)) != more || i.End() != api.OK {
				t.Errorf("Read of %v: %v, %d", b, c, i.Err())
			}
			if c, e := Parse(b.Text() + more); c != nil || e != api.ErrForm {
				t.Errorf("Parse of %v: %v, %d", b, c, e)
			}
		}
	}
	if c, e := Parse(batch(one(Halt, 0, 0, 0)) + "z"); c != nil || e != api.ErrArg {
		t.Errorf("Parse of a wrong one: %v, %d", c, e)
	}
	if c, e := Parse("\x00"); len(c) != 0 || e != api.OK {
		t.Errorf("Parse of none: %v, %d", c, e)
	}
}

// P9.1: an error that is there ahead stays.
func TestReadBehindError(t *testing.T) {
	for _, e := range []api.Errno{api.ErrEnd, api.ErrForm, api.ErrKind, api.ErrArg, api.ErrGone} {
		i := wire.Open(some().Text())
		i.Fail(e)
		if b := Read(i); b != nil || i.Err() != e {
			t.Errorf("Read behind %d: %v, %d", e, b, i.Err())
		}
	}
}

// P9.1: several batches, one behind the other, which share nothing.
func TestReadOneByOne(t *testing.T) {
	i := wire.Open(some().Text() + "\x00" + some().Text())
	a, b, c := Read(i), Read(i), Read(i)
	if !slices.Equal(a, some()) || len(b) != 0 || !slices.Equal(c, some()) || i.End() != api.OK {
		t.Fatalf("Read: %v, %v, %v, %d", a, b, c, i.Err())
	}
	a[0].A = 500
	_ = append(b, Order{Kind: 77})
	if !slices.Equal(c, some()) {
		t.Error("two batches share something")
	}
	if Read(i) != nil || i.Err() != api.ErrEnd {
		t.Errorf("Read of nothing: %d", i.Err())
	}
}

// P9.2: each order that may be comes back of its bytes, and no other one.
func TestEachOrderBack(t *testing.T) {
	for kind := -1; kind < 6; kind++ {
		for _, id := range values() {
			for _, a := range values() {
				for _, b := range values() {
					o := Order{kind, id, a, b}
					c, e := Parse(Of(o).Text())
					if slowCheck(o) == api.OK && (e != api.OK || !slices.Equal(c, Batch{o})) {
						t.Fatalf("Parse of %v: %v, %d", o, c, e)
					}
					if slowCheck(o) != api.OK && (e == api.OK || c != nil) {
						t.Fatalf("Parse of %v: %v, %d", o, c, e)
					}
				}
			}
		}
	}
}

// P9.2: what is read of a batch's bytes is that batch.
func TestThereAndBack(t *testing.T) {
	r := rand.New(rand.NewSource(92))
	for range 5000 {
		b := anyBatch(r)
		if b.Check() != api.OK {
			t.Fatalf("%v: %d", b, b.Check())
		}
		c, e := Parse(b.Text())
		if e != api.OK || !slices.Equal(b, c) || c.Text() != b.Text() {
			t.Fatalf("Parse of %v: %v, %d", b, c, e)
		}
		s := b.Text()
		for k := range len(s) { // each end that is cut off is wanting
			if c, e := Parse(s[:k]); c != nil || e != api.ErrEnd {
				t.Fatalf("Parse(%x): %v, %d", s[:k], c, e)
			}
		}
	}
}

// P9.2: of any bytes comes an error, or a batch that may be, whose bytes are just those that were taken.
func TestReadOfAnyBytes(t *testing.T) {
	r := rand.New(rand.NewSource(93))
	batches := 0
	for range 50000 {
		b := []byte(anyBatch(r).Text())
		for range 1 + r.Intn(2) {
			b[r.Intn(len(b))] = byte(r.Intn(256)) >> r.Intn(8)
		}
		i := wire.Open(string(b))
		l := Read(i)
		if i.Err() != api.OK {
			if l != nil {
				t.Fatalf("Read(%x): %v beside %d", b, l, i.Err())
			}
			continue
		}
		batches++
		if taken := string(b[:len(b)-i.Len()]); l.Text() != taken || l.Check() != api.OK {
			t.Fatalf("Read(%x): %x, %d", taken, l.Text(), l.Check())
		}
	}
	if batches < 1000 {
		t.Errorf("only %d of them were batches", batches)
	}
}
