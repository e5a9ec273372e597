package chunk

import (
	"math"
	"math/rand"
	"reflect"
	"slices"
	"strings"
	"testing"

	"cotillion/api"
	"cotillion/sums"
	"cotillion/wire"
)

const (
	whole  = 1 << 16 // the most bytes of a snapshot, of the chapter
	latest = 1 << 40 // the greatest turn
)

// text: so many bytes, no two hundreds of which are alike.
func text(n int) string {
	b := make([]byte, n)
	for k := range b {
		b[k] = byte(k + k/100*7 + k/1000)
	}
	return string(b)
}

// pieceBytes: a piece's bytes, whatever they say.
func pieceBytes(turn, bytes, hash, n uint64, s string) string {
	return new(wire.Out).Num(turn, bytes, hash, n).Str(s).Text()
}

// bytesOf: a piece's bytes, as its own Put says them.
func bytesOf(p Piece) string {
	var o wire.Out
	p.Put(&o)
	return o.Text()
}

// gather: to which these came, one behind the other.
func gather(t *testing.T, l ...Piece) *Gather {
	t.Helper()
	g := New()
	for _, p := range l {
		if e := g.Put(p); e != api.OK {
			t.Fatalf("Put of piece %d of turn %d: %d", p.N, p.Turn, e)
		}
	}
	return g
}

// seen is all that a gather tells.
type seen struct {
	came, all int
	missing   []int
	text      string
	turn      int
	err       api.Errno
}

func look(g *Gather) seen {
	var s seen
	s.came, s.all = g.Have()
	s.missing = append([]int{}, g.Missing(math.MaxInt)...)
	s.text, s.turn, s.err = g.Whole()
	return s
}

// --- pieces ---

// P11.1: Count, at the ends of pieces and far away.
func TestCount(t *testing.T) {
	if Size != 100 {
		t.Fatalf("Size: %d", Size)
	}
	for bytes, want := range map[int]int{
		math.MinInt: 0, -100: 0, -1: 0, 0: 0, 1: 1, 99: 1, 100: 1, 101: 2, 199: 2, 200: 2, 201: 3, 250: 3,
		whole - 36: 655, whole: 656, whole + 1: 656, whole + 64: 656, whole + 65: 657,
		math.MaxInt: math.MaxInt/100 + 1,
	} {
		if n := Count(bytes); n != want {
			t.Errorf("Count(%d): %d, not %d", bytes, n, want)
		}
	}
}

// P11.1: the chapter's example.
func TestExample(t *testing.T) {
	var sizes []int
	for _, p := range Split(7, text(250)) {
		sizes = append(sizes, len(p.Text))
	}
	if !slices.Equal(sizes, []int{100, 100, 50}) {
		t.Errorf("%v", sizes)
	}
}

// P11.1: Split, of as many bytes as the chapter names, and of those around them.
func TestSplit(t *testing.T) {
	for _, n := range []int{1, 2, 99, 100, 101, 199, 200, 201, 250, 1000, whole - 1, whole} {
		s := text(n)
		l := Split(9, s)
		if len(l) != (n+99)/100 {
			t.Fatalf("%d bytes: %d pieces", n, len(l))
		}
		for k, p := range l {
			want := Piece{Turn: 9, Bytes: n, Hash: sums.Of(s), N: k, Text: s[k*100 : min(k*100+100, n)]}
			if p != want {
				t.Fatalf("%d bytes: %+v, not %+v", n, p, want)
			}
			if e := p.Check(); e != api.OK {
				t.Fatalf("%d bytes: Check of piece %d: %d", n, k, e)
			}
		}
	}
	for _, n := range []int{0, whole + 1, whole + 100, 2 * whole} {
		if l := Split(9, text(n)); len(l) != 0 {
			t.Errorf("%d bytes: %d pieces", n, len(l))
		}
	}
}

// P11.1: Split looks at no turn: it stands in the pieces as it is.
func TestSplitTurns(t *testing.T) {
	for _, turn := range []int{math.MinInt, -1, 0, 1, latest, latest + 1, math.MaxInt} {
		l := Split(turn, "abc")
		if len(l) != 1 || l[0] != (Piece{Turn: turn, Bytes: 3, Hash: sums.Of("abc"), Text: "abc"}) {
			t.Errorf("turn %d: %+v", turn, l)
		}
	}
}

// P11.1: Head, whatever the piece is.
func TestHead(t *testing.T) {
	for _, p := range []Piece{{}, {Turn: 1, Bytes: 2, Hash: 3, N: 4, Text: "abc"}, {Turn: -1, Bytes: math.MinInt, Hash: math.MaxUint64}} {
		if h := p.Head(); h != (Head{Turn: p.Turn, Bytes: p.Bytes, Hash: p.Hash}) {
			t.Errorf("%+v: %+v", p, h)
		}
	}
	l := Split(3, text(250))
	if l[0].Head() != l[2].Head() || l[0].Head() == Split(4, text(250))[0].Head() {
		t.Error("heads of one snapshot are alike, of two unlike")
	}
}

// P11.1: Check, field by field, at the ends and beyond them, and which of several errors is told.
func TestCheck(t *testing.T) {
	a100, a36 := text(100), text(36)
	for _, c := range []struct {
		p    Piece
		want api.Errno
	}{
		{Piece{0, 1, 0, 0, "a"}, api.OK},
		{Piece{latest, 1, math.MaxUint64, 0, "a"}, api.OK},
		{Piece{0, 100, 5, 0, a100}, api.OK},
		{Piece{0, 101, 5, 0, a100}, api.OK},
		{Piece{0, 101, 5, 1, "a"}, api.OK},
		{Piece{0, 200, 5, 1, a100}, api.OK},
		{Piece{0, whole, 5, 0, a100}, api.OK},
		{Piece{0, whole, 5, 654, a100}, api.OK},
		{Piece{0, whole, 5, 655, a36}, api.OK},
		{Piece{-1, 1, 0, 0, "a"}, api.ErrArg},
		{Piece{math.MinInt, 1, 0, 0, "a"}, api.ErrArg},
		{Piece{latest + 1, 1, 0, 0, "a"}, api.ErrArg},
		{Piece{math.MaxInt, 1, 0, 0, "a"}, api.ErrArg},
		{Piece{0, 1, 0, -1, "a"}, api.ErrArg},
		{Piece{0, 1, 0, math.MinInt, "a"}, api.ErrArg},
		{Piece{}, api.ErrBig},
		{Piece{0, 0, 0, 0, "a"}, api.ErrBig},
		{Piece{0, -1, 0, 0, "a"}, api.ErrBig},
		{Piece{0, math.MinInt, 0, 0, ""}, api.ErrBig},
		{Piece{0, whole + 1, 0, 0, a100}, api.ErrBig},
		{Piece{0, math.MaxInt, 0, 0, a100}, api.ErrBig},
		{Piece{0, 1, 0, 1, ""}, api.ErrForm},
		{Piece{0, 1, 0, 1, "a"}, api.ErrForm},
		{Piece{0, 100, 0, 1, ""}, api.ErrForm},
		{Piece{0, 100, 0, 1, a100}, api.ErrForm},
		{Piece{0, 101, 0, 2, ""}, api.ErrForm},
		{Piece{0, whole, 0, 656, ""}, api.ErrForm},
		{Piece{0, whole, 0, 656, a36}, api.ErrForm},
		{Piece{0, 1, 0, math.MaxInt, "a"}, api.ErrForm},
		{Piece{0, whole, 0, math.MaxInt/100 + 1, a100}, api.ErrForm},
		{Piece{0, 1, 0, 0, ""}, api.ErrForm},
		{Piece{0, 1, 0, 0, "ab"}, api.ErrForm},
		{Piece{0, 100, 0, 0, a100[:99]}, api.ErrForm},
		{Piece{0, 100, 0, 0, a100 + "x"}, api.ErrForm},
		{Piece{0, 101, 0, 0, a100 + "x"}, api.ErrForm},
		{Piece{0, 101, 0, 1, ""}, api.ErrForm},
		{Piece{0, 101, 0, 1, "ab"}, api.ErrForm},
		{Piece{0, 200, 0, 1, a100[:99]}, api.ErrForm},
		{Piece{0, whole, 0, 655, a36 + "x"}, api.ErrForm},
		{Piece{0, whole, 0, 655, a36[:35]}, api.ErrForm},
		{Piece{0, whole, 0, 655, a100}, api.ErrForm},
		// several
		{Piece{-1, 0, 0, 0, ""}, api.ErrArg},
		{Piece{0, 0, 0, -1, ""}, api.ErrArg},
		{Piece{latest + 1, whole + 1, 0, -1, "abc"}, api.ErrArg},
		{Piece{0, 0, 0, 5, "abc"}, api.ErrBig},
		{Piece{0, whole + 1, 0, 656, "abc"}, api.ErrBig},
	} {
		if e := c.p.Check(); e != c.want {
			t.Errorf("%d, %d, %d, %d bytes: %d, not %d", c.p.Turn, c.p.Bytes, c.p.N, len(c.p.Text), e, c.want)
		}
	}
}

// P11.1: of each length just the pieces that Split makes may be, and only with their own length.
func TestCheckAll(t *testing.T) {
	for bytes := 1; bytes <= 420; bytes++ {
		l := Split(0, text(bytes))
		for n := range 6 {
			for size := 0; size <= 101; size++ {
				e := Piece{Bytes: bytes, N: n, Text: text(size)}.Check()
				ok := n < len(l) && size == len(l[n].Text)
				if ok != (e == api.OK) || !ok && e != api.ErrForm {
					t.Fatalf("%d bytes, piece %d, %d of text: %d", bytes, n, size, e)
				}
			}
		}
	}
}

// --- pieces as bytes ---

// P11.1: the bytes themselves, behind others.
func TestPut(t *testing.T) {
	var o wire.Out
	o.Raw("xy")
	Piece{Turn: 300, Bytes: 102, Hash: 0x81, N: 1, Text: "ab"}.Put(&o)
	if o.Text() != "xy\xac\x02\x66\x81\x01\x01\x02ab" {
		t.Errorf("%q", o.Text())
	}
	Piece{Bytes: 1, Text: "\x00"}.Put(&o)
	if !strings.HasSuffix(o.Text(), "ab\x00\x01\x00\x00\x01\x00") {
		t.Errorf("%q", o.Text())
	}
	if s := bytesOf(Piece{Turn: latest, Bytes: whole, Hash: math.MaxUint64, N: 655, Text: text(36)}); s != pieceBytes(latest, whole, math.MaxUint64, 655, text(36)) {
		t.Errorf("%q", s)
	}
}

// P11.1: Read, of the front: what is behind stays.
func TestRead(t *testing.T) {
	for _, n := range []int{1, 100, 101, 250, whole} {
		for _, p := range Split(latest, text(n)) {
			i := wire.Open(bytesOf(p) + "behind")
			if got := Read(i); got != p || i.Err() != api.OK || i.Raw(6) != "behind" || i.End() != api.OK {
				t.Fatalf("%+v: %+v, %d", p, got, i.Err())
			}
		}
	}
}

// P11.1: each error of Read, and which of several is told.
func TestReadErrors(t *testing.T) {
	a100 := text(100)
	for _, c := range []struct {
		s    string
		want api.Errno
	}{
		{pieceBytes(latest, 1, math.MaxUint64, 0, "a"), api.OK},
		{pieceBytes(0, whole, 0, 655, text(36)), api.OK},
		{"", api.ErrEnd},
		{pieceBytes(latest+1, 1, 0, 0, "a"), api.ErrBig},
		{pieceBytes(math.MaxUint64, 1, 0, 0, "a"), api.ErrBig},
		{pieceBytes(0, whole+1, 0, 0, a100), api.ErrBig},
		{pieceBytes(0, math.MaxUint64, 0, 0, a100), api.ErrBig},
		{pieceBytes(0, 1, 0, whole+1, "a"), api.ErrBig},
		{pieceBytes(0, 1, 0, math.MaxUint64, "a"), api.ErrBig},
		{pieceBytes(0, 101, 0, 0, a100+"x"), api.ErrBig},
		{pieceBytes(0, 0, 0, 0, ""), api.ErrBig},
		{pieceBytes(0, 0, 0, 1, "a"), api.ErrBig},
		{pieceBytes(0, 1, 0, 1, ""), api.ErrForm},
		{pieceBytes(0, 1, 0, whole, ""), api.ErrForm},
		{pieceBytes(0, 1, 0, 0, ""), api.ErrForm},
		{pieceBytes(0, 1, 0, 0, "ab"), api.ErrForm},
		{pieceBytes(0, 101, 0, 1, a100), api.ErrForm},
		// bytes that say nothing, in each number
		{"\x80\x00", api.ErrForm},
		{"\x00\x81\x00", api.ErrForm},
		{"\x00\x01\x81\x00", api.ErrForm},
		{"\x00\x01\x00\x81\x00", api.ErrForm},
		{"\x00\x01\x00\x00\x81\x00", api.ErrForm},
		// several: the bytes' own come ahead of Check's, the first one first
		{"\x00\x00\x00\x00", api.ErrEnd},
		{"\x00\x00\x00\x00\x01", api.ErrEnd},
		{"\x00\x01\x00\x05\x02a", api.ErrEnd},
		{"\x00\x00\x80\x00", api.ErrForm},
		{"\x00\x01\x80\x00" + "\xff", api.ErrForm},
		{new(wire.Out).Num(latest + 1).Text(), api.ErrBig},
		{new(wire.Out).Num(0, whole+1).Raw("\x80\x00").Text(), api.ErrBig},
		{new(wire.Out).Num(0, 0, 7, whole+1).Text(), api.ErrBig},
		{new(wire.Out).Num(0, 1, 7, 9, 101).Text(), api.ErrBig},
		{new(wire.Out).Num(0, 1, 7, 9, 100).Text(), api.ErrEnd},
	} {
		i := wire.Open(c.s)
		p := Read(i)
		if i.Err() != c.want || c.want != api.OK && (p != Piece{}) || c.want == api.OK && bytesOf(p) != c.s {
			t.Errorf("%q: %+v, %d, not %d", c.s, p, i.Err(), c.want)
		}
	}
}

// P11.1: an error that i had stays, and all cut bytes are told.
func TestReadCut(t *testing.T) {
	i := wire.Open(bytesOf(Split(1, "abc")[0]))
	i.Fail(api.ErrGone)
	if p := Read(i); p != (Piece{}) || i.Err() != api.ErrGone {
		t.Errorf("%+v, %d", p, i.Err())
	}
	s := bytesOf(Split(latest, text(250))[2])
	for n := range len(s) {
		i := wire.Open(s[:n])
		if p := Read(i); p != (Piece{}) || i.Err() != api.ErrEnd {
			t.Errorf("%d bytes: %+v, %d", n, p, i.Err())
		}
	}
}

// P11.1, P6: any bytes: an error and nothing, or a piece that may be, which has just these bytes.
func TestReadAnyBytes(t *testing.T) {
	r := rand.New(rand.NewSource(31))
	good := 0
	for range 40000 {
		b := []byte(bytesOf(Split(r.Intn(3), text(1+r.Intn(230)))[0]))
		for range r.Intn(3) {
			b[r.Intn(min(len(b), 20))] = byte(r.Intn(256) >> r.Intn(8))
		}
		b = b[:len(b)-r.Intn(2)*r.Intn(len(b))]
		i := wire.Open(string(b))
		p := Read(i)
		if i.Err() != api.OK {
			if p != (Piece{}) {
				t.Fatalf("%q: %+v beside %d", b, p, i.Err())
			}
			continue
		}
		good++
		if p.Check() != api.OK || bytesOf(p) != string(b[:len(b)-i.Len()]) {
			t.Fatalf("%q: %+v", b, p)
		}
	}
	if good < 1000 {
		t.Errorf("chance has no pieces: %d", good)
	}
}

// --- gather ---

// P11.1: nothing came.
func TestNothingCame(t *testing.T) {
	g := New()
	if n, all := g.Have(); n != 0 || all != 0 {
		t.Errorf("Have: %d, %d", n, all)
	}
	if l := g.Missing(10); len(l) != 0 {
		t.Errorf("Missing: %v", l)
	}
	if s, turn, e := g.Whole(); s != "" || turn != 0 || e != api.ErrStall {
		t.Errorf("Whole: %q, %d, %d", s, turn, e)
	}
	if New() == g {
		t.Error("New: the same one again")
	}
}

// P11.1: Missing, with room for none, for some, for all.
func TestMissing(t *testing.T) {
	l := Split(2, text(950))
	g := gather(t, l[4], l[0], l[9])
	for most, want := range map[int][]int{
		math.MinInt: nil, -1: nil, 0: nil, 1: {1}, 2: {1, 2}, 3: {1, 2, 3}, 4: {1, 2, 3, 5}, 6: {1, 2, 3, 5, 6, 7},
		7: {1, 2, 3, 5, 6, 7, 8}, 8: {1, 2, 3, 5, 6, 7, 8}, math.MaxInt: {1, 2, 3, 5, 6, 7, 8},
	} {
		if got := g.Missing(most); !slices.Equal(got, want) {
			t.Errorf("Missing(%d): %v", most, got)
		}
	}
	a := g.Missing(9)
	a[0] = 77
	if b := g.Missing(9); b[0] != 1 {
		t.Errorf("an answer that was changed shows in the next one: %v", b)
	}
	for _, k := range []int{1, 2, 3, 5, 6, 7, 8} {
		g.Put(l[k])
	}
	if got := g.Missing(9); len(got) != 0 {
		t.Errorf("of all: %v", got)
	}
}

// P11.1: snapshots of as many bytes as the chapter names, whole just when the last one came.
func TestWhole(t *testing.T) {
	for _, n := range []int{1, 99, 100, 101, 250, whole - 1, whole} {
		s := text(n)
		l := Split(latest, s)
		g := New()
		for k := len(l) - 1; k >= 0; k-- {
			if e := g.Put(l[k]); e != api.OK {
				t.Fatalf("%d bytes: Put: %d", n, e)
			}
			if came, all := g.Have(); came != len(l)-k || all != len(l) {
				t.Fatalf("%d bytes: Have: %d, %d", n, came, all)
			}
			got, turn, e := g.Whole()
			if k > 0 && (got != "" || turn != 0 || e != api.ErrStall) {
				t.Fatalf("%d bytes: Whole: %d bytes, %d, %d", n, len(got), turn, e)
			}
			if k == 0 && (got != s || turn != latest || e != api.OK) {
				t.Fatalf("%d bytes: Whole: %d bytes, %d, %d", n, len(got), turn, e)
			}
		}
		if a, b := look(g), look(g); !reflect.DeepEqual(a, b) || a.text != s {
			t.Errorf("%d bytes: Whole again", n)
		}
	}
}

// P11.1: a piece that comes twice, ahead of all and behind all; with another text it is there, too.
func TestTwice(t *testing.T) {
	l := Split(5, text(150))
	g := gather(t, l[1])
	other := l[1]
	other.Text = strings.Repeat("z", 50)
	for _, p := range []Piece{l[1], other} {
		was := look(g)
		if e := g.Put(p); e != api.ErrThere || !reflect.DeepEqual(look(g), was) {
			t.Errorf("Put: %d", e)
		}
	}
	g.Put(l[0])
	for _, p := range []Piece{l[0], l[1], other} {
		was := look(g)
		if e := g.Put(p); e != api.ErrThere || !reflect.DeepEqual(look(g), was) || was.text != text(150) {
			t.Errorf("Put: %d", e)
		}
	}
}

// P11.1: pieces of an older turn, of the same one with another head, of a newer one.
func TestHeads(t *testing.T) {
	s := text(150)
	l := Split(5, s)
	twin := l[1]
	twin.Hash++ // as many bytes of the same turn, with another sum
	for _, p := range []Piece{
		Split(4, s)[1], Split(0, s)[1], Split(4, "ab")[0], // older
		Split(5, s+"x")[0], Split(5, "ab")[0], twin, // the same turn
		Split(4, s)[0], // older, of a number that came
	} {
		g := gather(t, l[0])
		was := look(g)
		if e := g.Put(p); e != api.ErrOld || !reflect.DeepEqual(look(g), was) {
			t.Errorf("turn %d, %d bytes, %d: %d", p.Turn, p.Bytes, p.N, e)
		}
		if g.Put(l[1]) != api.OK || look(g).text != s {
			t.Errorf("behind turn %d, %d bytes, %d: %+v", p.Turn, p.Bytes, p.N, look(g))
		}
		if e := g.Put(p); e != api.ErrOld || look(g).text != s { // behind all, too
			t.Errorf("turn %d, %d bytes, %d: %d", p.Turn, p.Bytes, p.N, e)
		}
	}
	for _, turn := range []int{6, latest} {
		newer := Split(turn, s) // the same bytes, of another turn: nothing that came counts
		g := gather(t, l[0], newer[1])
		if got := look(g); got.came != 1 || got.all != 2 || !slices.Equal(got.missing, []int{0}) || got.err != api.ErrStall {
			t.Errorf("turn %d: %+v", turn, got)
		}
		if e := g.Put(l[1]); e != api.ErrOld {
			t.Errorf("turn %d: %d", turn, e)
		}
		if g.Put(newer[0]) != api.OK || look(g).turn != turn {
			t.Errorf("turn %d: %+v", turn, look(g))
		}
	}
	g := gather(t, l[0], l[1], Split(6, "new")[0]) // what was whole goes, too
	if got := look(g); got.text != "new" || got.turn != 6 || got.all != 1 {
		t.Errorf("%+v", got)
	}
	g = gather(t, Split(0, s)[0]) // turn 0 is one like others: what is of it isn't nothing
	if e := g.Put(Split(0, "ab")[0]); e != api.ErrOld {
		t.Errorf("turn 0: %d", e)
	}
}

// P11.1: Put tells Check's errors first, and nothing changes with one.
func TestPutErrors(t *testing.T) {
	l := Split(5, text(150))
	for _, c := range []struct {
		p    Piece
		want api.Errno
	}{
		{Piece{}, api.ErrBig},
		{Piece{Turn: -1, Bytes: 150, Hash: l[0].Hash, Text: l[0].Text}, api.ErrArg},
		{Piece{Turn: latest + 1, Bytes: 1, Text: "a"}, api.ErrArg},
		{Piece{Turn: 5, Bytes: 150, Hash: l[0].Hash, N: -1, Text: l[0].Text}, api.ErrArg},
		{Piece{Turn: 9, Bytes: whole + 1, Text: text(100)}, api.ErrBig},
		{Piece{Turn: 5, Bytes: 150, Hash: l[0].Hash, N: 2}, api.ErrForm},
		{Piece{Turn: 5, Bytes: 150, Hash: l[0].Hash, N: 0, Text: "short"}, api.ErrForm}, // it came, too
		{Piece{Turn: 4, Bytes: 150, N: 1, Text: "short"}, api.ErrForm},                  // older, too
		{Piece{Turn: 9, Bytes: 150, N: 1, Text: "short"}, api.ErrForm},                  // newer
	} {
		for _, g := range []*Gather{New(), gather(t, l[0]), gather(t, l...)} {
			was := look(g)
			if e := g.Put(c.p); e != c.want || !reflect.DeepEqual(look(g), was) {
				t.Errorf("%+v: %d, not %d", c.p, e, c.want)
			}
		}
	}
}

// P11.1, P11.2: a sum that is another one: it is never whole, till a newer turn comes.
func TestSum(t *testing.T) {
	s := text(150)
	for bent := range 2 {
		l := Split(5, s)
		b := []byte(l[bent].Text)
		b[len(b)-1] ^= 1
		l[bent].Text = string(b)
		g := gather(t, l...)
		for range 2 {
			if got, turn, e := g.Whole(); got != "" || turn != 0 || e != api.ErrSum {
				t.Errorf("Whole: %q, %d, %d", got, turn, e)
			}
		}
		if n, all := g.Have(); n != 2 || all != 2 || g.Put(Split(5, s)[bent]) != api.ErrThere {
			t.Errorf("Have: %d, %d", n, all)
		}
		if g.Put(Split(6, "ab")[0]) != api.OK || look(g).text != "ab" {
			t.Errorf("%+v", look(g))
		}
	}
	p := Split(5, "abc")[0]
	p.Hash++
	if _, _, e := gather(t, p).Whole(); e != api.ErrSum {
		t.Errorf("Whole: %d", e)
	}
	p = Piece{Turn: 5, Bytes: 1, Text: "a"} // no sum of one byte is 0
	if _, _, e := gather(t, p).Whole(); e != api.ErrSum {
		t.Errorf("Whole: %d", e)
	}
}

// P11.1: two gathers share nothing.
func TestApart(t *testing.T) {
	l := Split(5, text(250))
	a, b := gather(t, l[0]), gather(t, l[0])
	a.Put(l[1])
	if n, _ := b.Have(); n != 1 {
		t.Errorf("Have: %d", n)
	}
}

// slow is a gather in the chapter's words: the list of all that came.
type slow struct{ came []Piece }

func (s *slow) put(p Piece) api.Errno {
	if e := p.Check(); e != api.OK {
		return e
	}
	if len(s.came) > 0 && s.came[0].Head() != p.Head() {
		if p.Turn <= s.came[0].Turn {
			return api.ErrOld
		}
		s.came = nil
	}
	for _, c := range s.came {
		if c.N == p.N {
			return api.ErrThere
		}
	}
	s.came = append(s.came, p)
	return api.OK
}

func (s *slow) look() seen {
	out := seen{missing: []int{}, err: api.ErrStall}
	if len(s.came) == 0 {
		return out
	}
	out.came, out.all = len(s.came), (s.came[0].Bytes+99)/100
	l := slices.Clone(s.came)
	slices.SortFunc(l, func(a, b Piece) int { return a.N - b.N })
	var all string
	for n := range out.all {
		if k := slices.IndexFunc(l, func(p Piece) bool { return p.N == n }); k < 0 {
			out.missing = append(out.missing, n)
		} else {
			all += l[k].Text
		}
	}
	if len(out.missing) > 0 {
		return out
	}
	if sums.Of(all) != s.came[0].Hash {
		out.err = api.ErrSum
		return out
	}
	out.text, out.turn, out.err = all, s.came[0].Turn, api.OK
	return out
}

// P11.1, P11.2: pieces by chance, of several snapshots, some bent, against the slow one; what is whole was split.
func TestAgainstSlow(t *testing.T) {
	r := rand.New(rand.NewSource(32))
	ends := map[api.Errno]int{}
	wholes := 0
	for range 600 {
		var pool []Piece
		split := map[string]int{}
		for range 1 + r.Intn(4) {
			s := text(1 + r.Intn(450))
			split[s]++
			pool = append(pool, Split(r.Intn(4), s)...)
		}
		g, m := New(), &slow{}
		for range 5 + r.Intn(40) {
			p := pool[r.Intn(len(pool))]
			if r.Intn(12) == 0 {
				p = bend(r, p)
			}
			got, want := g.Put(p), m.put(p)
			if got != want {
				t.Fatalf("Put of %+v: %d, not %d", p, got, want)
			}
			ends[got]++
			a, b := look(g), m.look()
			if !reflect.DeepEqual(a, b) {
				t.Fatalf("%+v, not %+v", a, b)
			}
			ends[a.err+100]++
			if a.err == api.OK {
				wholes++
				if split[a.text] == 0 {
					t.Fatalf("whole, and never split: %q", a.text)
				}
			}
		}
	}
	for _, e := range []api.Errno{api.OK, api.ErrArg, api.ErrBig, api.ErrForm, api.ErrOld, api.ErrThere, 100, 100 + api.ErrStall, 100 + api.ErrSum} {
		if ends[e] < 20 {
			t.Errorf("chance has no ends: %v", ends)
		}
	}
	if wholes < 100 {
		t.Errorf("chance has no snapshots: %d", wholes)
	}
}

// bend: one field is another one.
func bend(r *rand.Rand, p Piece) Piece {
	switch r.Intn(6) {
	case 0:
		p.Turn = r.Intn(6) - 1
	case 1:
		p.Bytes = r.Intn(500)
	case 2:
		p.Hash ^= 1 << r.Intn(64)
	case 3:
		p.N = r.Intn(7) - 1
	case 4:
		p.Text = p.Text[:len(p.Text)-1] + "#"
	default:
		p.Bytes = []int{0, -1, whole + 1}[r.Intn(3)]
	}
	return p
}

// P11.2: all of one snapshot, in any order, each at least once, with older ones between: it is whole.
func TestAnyOrder(t *testing.T) {
	r := rand.New(rand.NewSource(33))
	for range 300 {
		s := text(1 + r.Intn(3000))
		l := Split(7, s)
		row := append(slices.Clone(l), l[:r.Intn(len(l)+1)]...)
		row = append(row, Split(6, s[:1+r.Intn(len(s))])...)
		r.Shuffle(len(row), func(a, b int) { row[a], row[b] = row[b], row[a] })
		g := New()
		came := map[int]int{}
		for _, p := range row {
			g.Put(p)
			if p.Turn == 7 {
				came[p.N] = 1
			}
			got, turn, e := g.Whole()
			if turn == 7 != (len(came) == len(l)) || turn == 7 && (got != s || e != api.OK) {
				t.Fatalf("%d of %d came: %d bytes of turn %d, %d", len(came), len(l), len(got), turn, e)
			}
		}
	}
}
