package window

import (
	"math"
	"math/rand"
	"slices"
	"strconv"
	"testing"

	"cotillion/api"
)

// firsts: where numbers begin: far from where they go round, just ahead of it, and at their middle.
var firsts = []uint32{0, 1, 5, 1000, half - 40, half - 1, half, half + 1, math.MaxUint32 - 40, math.MaxUint32 - 31, math.MaxUint32 - 1, math.MaxUint32}

// isBelow: the chapter's words, in numbers that don't go round.
func isBelow(n, of uint32) bool {
	more := (int64(n) - int64(of) + 1<<32) % (1 << 32)
	return more >= 1<<31
}

// tells: the chapter's words on an ack.
func tells(a Ack, n uint32) bool {
	for k := range 32 {
		if a.Bits&(1<<k) != 0 && uint32((uint64(a.Next)+uint64(k)+1)%(1<<32)) == n {
			return true
		}
	}
	return isBelow(n, a.Next)
}

// name: what is sent with a number.
func name(n uint32) string {
	return strconv.FormatUint(uint64(n), 10)
}

// sent: so many are on their way, from that number on.
func sent(t *testing.T, first uint32, count int) *Out {
	t.Helper()
	o := Begin(first)
	for k := range count {
		pushes(t, o, first+uint32(k))
	}
	return o
}

// pushes: one more is on its way, of this number.
func pushes(t *testing.T, o *Out, want uint32) {
	t.Helper()
	if n, e := o.Push(name(want)); n != want || e != api.OK {
		t.Fatalf("Push: %d, %d, not %d", n, e, want)
	}
}

// full: none more goes, and nothing changes.
func full(t *testing.T, o *Out) {
	t.Helper()
	next, all := o.Next(), o.All()
	if n, e := o.Push("more"); n != 0 || e != api.ErrFull {
		t.Fatalf("Push: %d, %d", n, e)
	}
	has(t, o, next, all)
}

// has: just these are on their way, and that number is the next one.
func has(t *testing.T, o *Out, next uint32, want []Item) {
	t.Helper()
	if o.Next() != next || o.Len() != len(want) || !slices.Equal(o.All(), want) {
		t.Fatalf("next %d, %d: %v, not %d, %v", o.Next(), o.Len(), o.All(), next, want)
	}
}

// numbered: these numbers, with what is sent with them.
func numbered(l ...uint32) []Item {
	var all []Item
	for _, n := range l {
		all = append(all, Item{N: n, Text: name(n)})
	}
	return all
}

// run: numbers one behind the other.
func run(first uint32, count int) []uint32 {
	var l []uint32
	for k := range count {
		l = append(l, first+uint32(k))
	}
	return l
}

// --- acks ---

// P13.1: Has, at the awaited number, next to it, at the ends of the bits, half way round.
func TestHas(t *testing.T) {
	for _, next := range firsts {
		for _, bits := range []uint32{0, 1, 2, 5, 1 << 30, 1 << 31, 3 << 30, 0x55555555, math.MaxUint32} {
			a := Ack{Next: next, Bits: bits}
			for _, d := range []uint32{0, half - 1, half, half + 1, math.MaxUint32} {
				if a.Has(next+d) != (d >= half) {
					t.Errorf("%+v: Next and %d", a, d)
				}
			}
			for d := range uint32(80) {
				if got, want := a.Has(next+d), d >= 1 && d <= 32 && bits>>(d-1)&1 == 1; got != want {
					t.Errorf("%+v: Next and %d: %v", a, d, got)
				}
				if !a.Has(next - 1 - d) {
					t.Errorf("%+v: %d below Next", a, d+1)
				}
			}
		}
	}
}

// P13.1: each bit from 0 to 31, alone and wanting alone.
func TestHasEachBit(t *testing.T) {
	for _, next := range firsts {
		for k := range uint32(32) {
			one, but := Ack{Next: next, Bits: 1 << k}, Ack{Next: next, Bits: ^(uint32(1) << k)}
			for d := range uint32(35) {
				if one.Has(next+d) != (d == k+1) {
					t.Errorf("bit %d of %d: Next and %d", k, next, d)
				}
				if but.Has(next+d) != (d >= 1 && d <= 32 && d != k+1) {
					t.Errorf("all but bit %d of %d: Next and %d", k, next, d)
				}
			}
		}
	}
}

// P13.1: Has, by chance, near Next and far from it.
func TestHasByChance(t *testing.T) {
	r := rand.New(rand.NewSource(13))
	for range 20000 {
		a := Ack{Next: r.Uint32(), Bits: r.Uint32()}
		for _, n := range []uint32{r.Uint32(), a.Next + uint32(r.Intn(90)) - 45, a.Next + half + uint32(r.Intn(5)) - 2} {
			if a.Has(n) != tells(a, n) {
				t.Fatalf("%+v: %d: %v", a, n, a.Has(n))
			}
		}
	}
}

// --- what was sent ---

// P13.1: Begin, and numbers that go round.
func TestBegin(t *testing.T) {
	if Most != 32 {
		t.Fatalf("Most: %d", Most)
	}
	for _, first := range firsts {
		o := Begin(first)
		has(t, o, first, nil)
		for k := range 32 {
			pushes(t, o, first+uint32(k))
			has(t, o, first+uint32(k)+1, numbered(run(first, k+1)...))
		}
	}
	has(t, sent(t, math.MaxUint32, 3), 2, numbered(math.MaxUint32, 0, 1))
}

// P13.1: any text goes, an empty one and a long one too.
func TestPushText(t *testing.T) {
	o := Begin(7)
	texts := []string{"", "a", "\x00\xff", string(make([]byte, 100000))}
	for _, s := range texts {
		if _, e := o.Push(s); e != api.OK {
			t.Fatalf("Push of %d bytes: %d", len(s), e)
		}
	}
	for k, x := range o.All() {
		if x != (Item{N: 7 + uint32(k), Text: texts[k]}) {
			t.Errorf("%d: number %d, %d bytes", k, x.N, len(x.Text))
		}
	}
}

// P13.1, P13.3: Push, when the next number is 31, 32 ahead of the first one's; how many are between doesn't count.
func TestPushFull(t *testing.T) {
	for _, first := range firsts {
		o := sent(t, first, 31)
		pushes(t, o, first+31)
		full(t, o)
		full(t, o)

		o.Ack(Ack{Next: first, Bits: 1<<31 - 1}) // all but the first one
		has(t, o, first+32, numbered(first))
		full(t, o)

		o.Ack(Ack{Next: first + 1})
		has(t, o, first+32, nil)
		for k := range 32 { // none is on its way: the next one is the first
			pushes(t, o, first+32+uint32(k))
		}
		full(t, o)
		o.Ack(Ack{Next: first + 33}) // one goes: there is place for one
		pushes(t, o, first+64)
		full(t, o)
		o.Ack(Ack{Next: first + 33, Bits: 1}) // one behind the first goes: there is none
		full(t, o)
		o.Ack(Ack{Next: first + 35}) // place for two: the first is now the third
		pushes(t, o, first+65)
		pushes(t, o, first+66)
		full(t, o)
	}
}

// P13.1: acks whose Next is at each number from the first on, up to the next number; and twice.
func TestAckNext(t *testing.T) {
	for _, first := range firsts {
		for count := range 33 {
			for d := range count + 1 {
				o := sent(t, first, count)
				a := Ack{Next: first + uint32(d)}
				if l := o.Ack(a); !slices.Equal(l, run(first, d)) {
					t.Fatalf("%d from %d on, ack %d: %v", count, first, a.Next, l)
				}
				rest := numbered(run(first+uint32(d), count-d)...)
				has(t, o, first+uint32(count), rest)
				if l := o.Ack(a); len(l) != 0 {
					t.Fatalf("%d from %d on, ack %d once more: %v", count, first, a.Next, l)
				}
				has(t, o, first+uint32(count), rest)
			}
		}
	}
}

// P13.1: an ack whose Next is ahead of the next number says nothing, its bits neither; one below, as far as half way round, does.
func TestAckAhead(t *testing.T) {
	for _, first := range firsts {
		for _, count := range []int{0, 1, 7, 32} {
			next := first + uint32(count)
			for _, d := range []uint32{1, 2, 31, 32, 33, 1000, half - 33, half - 2, half - 1} {
				for _, bits := range []uint32{0, 1, math.MaxUint32} {
					o := sent(t, first, count)
					if l := o.Ack(Ack{Next: next + d, Bits: bits}); len(l) != 0 {
						t.Fatalf("%d from %d on, Next %d ahead: %v", count, first, d, l)
					}
					has(t, o, next, numbered(run(first, count)...))
				}
			}
			for _, d := range []uint32{half, half + 1, half + 32, half + 33, half + 100} { // below, and all that was sent ahead of it
				o := sent(t, first, count)
				if l := o.Ack(Ack{Next: next + d, Bits: math.MaxUint32}); len(l) != 0 {
					t.Fatalf("%d from %d on, Next and %d: %v", count, first, d, l)
				}
				has(t, o, next, numbered(run(first, count)...))
			}
		}
	}
}

// P13.1: an ack with each bit from 0 to 31, once and twice: the bits tell of no number that wasn't sent.
func TestAckEachBit(t *testing.T) {
	for _, first := range firsts {
		for _, count := range []int{1, 2, 31, 32} {
			for k := range 32 {
				for _, back := range []uint32{0, 1, 33} { // Next is the first number, or what came long ago
					o := sent(t, first, count)
					d := k + 1 - int(back) // the bit's number, from the first one on
					var want []uint32
					rest := run(first, count)
					if d >= 0 && d < count {
						want = []uint32{rest[d]}
						rest = slices.Delete(rest, d, d+1)
					}
					a := Ack{Next: first - back, Bits: 1 << k}
					if l := o.Ack(a); !slices.Equal(l, want) {
						t.Fatalf("%d from %d on, %+v: %v", count, first, a, l)
					}
					if l := o.Ack(a); len(l) != 0 {
						t.Fatalf("%d from %d on, %+v once more: %v", count, first, a, l)
					}
					has(t, o, first+uint32(count), numbered(rest...))
				}
			}
		}
	}
}

// P13.1: what an ack tells goes in its order: below Next, and by bits, those that are gone ahead no more.
func TestAckBoth(t *testing.T) {
	for _, first := range firsts {
		o := sent(t, first, 10)
		for _, c := range []struct {
			a    Ack
			want []uint32
		}{
			{Ack{Next: first, Bits: 0b101000}, []uint32{first + 4, first + 6}},
			{Ack{Next: first + 2, Bits: 0b1010}, []uint32{first, first + 1}},
			{Ack{Next: first + 2, Bits: 0b10101011}, []uint32{first + 3, first + 8}}, // 3, 4, 6, 8, and 10, which wasn't sent
			{Ack{Next: first}, nil},                   // an old one
			{Ack{Next: first, Bits: 0b10100000}, nil}, // and one of what went long ago
			{Ack{Next: first + 8}, []uint32{first + 2, first + 5, first + 7}},
			{Ack{Next: first + 10, Bits: math.MaxUint32}, []uint32{first + 9}},
			{Ack{Next: first + 10}, nil},
		} {
			if l := o.Ack(c.a); !slices.Equal(l, c.want) {
				t.Errorf("from %d on, %+v: %v, not %v", first, c.a, l, c.want)
			}
		}
		has(t, o, first+10, nil)
	}
}

// P13.1, K3: what Out answers is the caller's, and stays as it is.
func TestOutShares(t *testing.T) {
	o := sent(t, 3, 4)
	all := o.All()
	all[1] = Item{N: 99, Text: "z"}
	has(t, o, 7, numbered(3, 4, 5, 6))
	kept := o.All()
	l := o.Ack(Ack{Next: 4, Bits: 1})
	pushes(t, o, 7)
	pushes(t, o, 8)
	o.Ack(Ack{Next: 8})
	pushes(t, o, 9)
	if !slices.Equal(kept, numbered(3, 4, 5, 6)) || !slices.Equal(l, []uint32{3, 5}) {
		t.Errorf("%v, %v", kept, l)
	}
	l[0] = 8
	has(t, o, 10, numbered(8, 9))
}

// --- what came ---

// puts: this number comes, and these go out.
func puts(t *testing.T, i *In, n uint32, want ...uint32) {
	t.Helper()
	l, e := i.Put(Item{N: n, Text: name(n)})
	if e != api.OK || len(l) != len(want) {
		t.Fatalf("Put of %d: %q, %d, not %v", n, l, e, want)
	}
	for k, s := range l {
		if s != name(want[k]) {
			t.Fatalf("Put of %d: %q, not %v", n, l, want)
		}
	}
}

// refuses: this number isn't taken, and nothing changes.
func refuses(t *testing.T, i *In, n uint32, want api.Errno) {
	t.Helper()
	a, count := i.Ack(), i.Len()
	if l, e := i.Put(Item{N: n, Text: "other"}); l != nil || e != want {
		t.Fatalf("Put of %d: %q, %d, not %d", n, l, e, want)
	}
	told(t, i, a.Next, a.Bits, count)
}

// told: what an In tells.
func told(t *testing.T, i *In, next, bits uint32, count int) {
	t.Helper()
	if a := i.Ack(); a != (Ack{Next: next, Bits: bits}) || i.Len() != count {
		t.Fatalf("%+v, %d wait, not %d, %b, %d", a, i.Len(), next, bits, count)
	}
}

// P13.1: the chapter's example.
func TestExample(t *testing.T) {
	i := Expect(5)
	puts(t, i, 6)
	puts(t, i, 8)
	told(t, i, 5, 0b101, 2)
	puts(t, i, 5, 5, 6)
	told(t, i, 7, 1, 1)
}

// P13.1: Expect, and things that come in their order, round and on.
func TestExpect(t *testing.T) {
	for _, first := range firsts {
		i := Expect(first)
		told(t, i, first, 0, 0)
		for k := range uint32(100) {
			puts(t, i, first+k, first+k)
			told(t, i, first+k+1, 0, 0)
		}
	}
}

// P13.1, P13.3: a number at the awaited one, below it, 32 and 33 ahead of it, and half way round.
func TestPutRange(t *testing.T) {
	for _, first := range firsts {
		for _, d := range []uint32{1, 2, 32, 33, 1000, half - 1, half} {
			refuses(t, Expect(first), first-d, api.ErrOld)
		}
		for _, d := range []uint32{33, 34, 64, 1000, half - 2, half - 1} {
			refuses(t, Expect(first), first+d, api.ErrFull)
		}
		i := Expect(first)
		puts(t, i, first+32)
		told(t, i, first, 1<<31, 1)
		refuses(t, i, first+32, api.ErrThere)
		refuses(t, i, first+33, api.ErrFull)
		puts(t, i, first, first)
		told(t, i, first+1, 1<<30, 1)
		refuses(t, i, first, api.ErrOld)
		puts(t, i, first+33)
		told(t, i, first+1, 3<<30, 2)
	}
}

// P13.1: each bit from 0 to 31: one that waits, comes twice, and goes out in its turn.
func TestPutEachBit(t *testing.T) {
	for _, first := range firsts {
		for k := range uint32(32) {
			i := Expect(first)
			puts(t, i, first+k+1)
			told(t, i, first, 1<<k, 1)
			refuses(t, i, first+k+1, api.ErrThere)
			for n := range k {
				puts(t, i, first+n, first+n)
				told(t, i, first+n+1, 1<<(k-n-1), 1)
			}
			puts(t, i, first+k, first+k, first+k+1)
			told(t, i, first+k+2, 0, 0)
			refuses(t, i, first+k+1, api.ErrOld)
		}
	}
}

// P13.1, P13.3: as many as can wait do, come in whatever order, and go out at once.
func TestPutAll(t *testing.T) {
	for _, first := range firsts {
		for _, order := range [][]uint32{run(1, 32), reversed(run(1, 32))} {
			i := Expect(first)
			var bits uint32
			for k, d := range order {
				puts(t, i, first+d)
				bits |= 1 << (d - 1)
				told(t, i, first, bits, k+1)
			}
			refuses(t, i, first+33, api.ErrFull)
			refuses(t, i, first+1, api.ErrThere)
			refuses(t, i, first-1, api.ErrOld)
			puts(t, i, first, run(first, 33)...)
			told(t, i, first+33, 0, 0)
		}
	}
}

func reversed(l []uint32) []uint32 {
	slices.Reverse(l)
	return l
}

// P13.1: what goes out is the text that came first; one that comes twice changes nothing, whatever it says.
func TestPutTwice(t *testing.T) {
	i := Expect(math.MaxUint32)
	for _, x := range []Item{{N: 0, Text: "b"}, {N: 1}, {N: 3, Text: "e"}} {
		if l, e := i.Put(x); len(l) != 0 || e != api.OK {
			t.Fatalf("%+v: %q, %d", x, l, e)
		}
	}
	refuses(t, i, 0, api.ErrThere)
	refuses(t, i, 1, api.ErrThere)
	if l, e := i.Put(Item{N: math.MaxUint32, Text: "a"}); !slices.Equal(l, []string{"a", "b", ""}) || e != api.OK {
		t.Fatalf("%q, %d", l, e)
	}
	refuses(t, i, math.MaxUint32, api.ErrOld)
	refuses(t, i, 0, api.ErrOld)
	refuses(t, i, 3, api.ErrThere)
	if l, e := i.Put(Item{N: 2}); !slices.Equal(l, []string{"", "e"}) || e != api.OK {
		t.Fatalf("%q, %d", l, e)
	}
}

// P13.1, K3: what In answers is the caller's, and stays as it is.
func TestInShares(t *testing.T) {
	i := Expect(0)
	puts(t, i, 1)
	l, _ := i.Put(Item{N: 0, Text: "0"})
	puts(t, i, 3)
	k, _ := i.Put(Item{N: 2, Text: "2"})
	k[0] = "z"
	if !slices.Equal(l, []string{"0", "1"}) || !slices.Equal(k, []string{"z", "3"}) {
		t.Errorf("%q, %q", l, k)
	}
}

// K4: two of one kind have nothing in common.
func TestApart(t *testing.T) {
	o, p := Begin(4), Begin(4)
	pushes(t, o, 4)
	has(t, p, 4, nil)
	i, j := Expect(4), Expect(4)
	puts(t, i, 5)
	told(t, j, 4, 0, 0)
	puts(t, j, 5)
	puts(t, i, 4, 4, 5)
	told(t, j, 4, 1, 1)
}

// K6: those that weren't made by Begin and Expect don't panic: they begin at 0.
func TestZero(t *testing.T) {
	var o Out
	has(t, &o, 0, nil)
	pushes(t, &o, 0)
	var i In
	told(t, &i, 0, 0, 0)
	puts(t, &i, 1)
	puts(t, &i, 0, 0, 1)
	if l := o.Ack(Ack{Next: 1}); !slices.Equal(l, []uint32{0}) {
		t.Errorf("%v", l)
	}
}

// --- by chance, against slow ones ---

// slowOut looks at each number by the chapter's words.
type slowOut struct {
	next uint32
	l    []Item
}

func (o *slowOut) push(s string) (uint32, api.Errno) {
	if len(o.l) > 0 && (int64(o.next)-int64(o.l[0].N)+1<<32)%(1<<32) >= 32 {
		return 0, api.ErrFull
	}
	o.l = append(slices.Clone(o.l), Item{N: o.next, Text: s})
	o.next = uint32((uint64(o.next) + 1) % (1 << 32))
	return o.l[len(o.l)-1].N, api.OK
}

func (o *slowOut) ack(a Ack) []uint32 {
	if ahead := (int64(a.Next) - int64(o.next) + 1<<32) % (1 << 32); ahead > 0 && ahead < 1<<31 {
		return nil
	}
	var came []uint32
	var left []Item
	for _, x := range o.l {
		if tells(a, x.N) {
			came = append(came, x.N)
		} else {
			left = append(left, x)
		}
	}
	o.l = left
	return came
}

// P13.1, P13.3: calls of an Out by chance.
func TestOutByChance(t *testing.T) {
	for seed := range int64(60) {
		r := rand.New(rand.NewSource(seed))
		first := firsts[int(seed)%len(firsts)]
		o, m := Begin(first), &slowOut{next: first}
		for range 600 {
			if r.Intn(3) > 0 {
				s := strconv.Itoa(r.Int())
				n, e := o.Push(s)
				if wn, we := m.push(s); n != wn || e != we {
					t.Fatalf("seed %d: Push: %d, %d, not %d, %d", seed, n, e, wn, we)
				}
			} else {
				a := Ack{Next: m.next - uint32(r.Intn(40)) + uint32(r.Intn(4)), Bits: r.Uint32() & r.Uint32()}
				if r.Intn(10) == 0 {
					a.Next = r.Uint32()
				}
				l := o.Ack(a)
				if w := m.ack(a); !slices.Equal(l, w) {
					t.Fatalf("seed %d: %+v: %v, not %v", seed, a, l, w)
				}
			}
			has(t, o, m.next, m.l)
			if len(m.l) > 0 && m.next-m.l[0].N > 32 {
				t.Fatalf("seed %d: from %d to %d", seed, m.l[0].N, m.next)
			}
		}
	}
}

// slowIn keeps what waits in a list, and looks through all of it.
type slowIn struct {
	next uint32
	l    []Item
}

func (i *slowIn) find(n uint32) int {
	return slices.IndexFunc(i.l, func(x Item) bool { return x.N == n })
}

func (i *slowIn) put(x Item) ([]string, api.Errno) {
	switch {
	case isBelow(x.N, i.next):
		return nil, api.ErrOld
	case (int64(x.N)-int64(i.next)+1<<32)%(1<<32) > 32:
		return nil, api.ErrFull
	case i.find(x.N) >= 0:
		return nil, api.ErrThere
	}
	i.l = append(i.l, x)
	var out []string
	for k := i.find(i.next); k >= 0; k = i.find(i.next) {
		out = append(out, i.l[k].Text)
		i.l = slices.Delete(i.l, k, k+1)
		i.next++
	}
	return out, api.OK
}

// P13.1, P13.3: calls of an In by chance; the ack tells just what waits.
func TestInByChance(t *testing.T) {
	for seed := range int64(60) {
		r := rand.New(rand.NewSource(seed))
		first := firsts[int(seed)%len(firsts)]
		i, m := Expect(first), &slowIn{next: first}
		for range 600 {
			x := Item{N: m.next + uint32(r.Intn(40)) - 3, Text: strconv.Itoa(r.Int())}
			if r.Intn(30) == 0 {
				x.N = r.Uint32()
			}
			if r.Intn(8) == 0 {
				x.N = m.next
			}
			l, e := i.Put(x)
			if w, we := m.put(x); !slices.Equal(l, w) || e != we {
				t.Fatalf("seed %d: %+v: %q, %d, not %q, %d", seed, x, l, e, w, we)
			}
			a := i.Ack()
			if a.Next != m.next || i.Len() != len(m.l) {
				t.Fatalf("seed %d: %+v, %d wait, not %d, %d", seed, a, i.Len(), m.next, len(m.l))
			}
			for d := range uint32(40) {
				if a.Has(m.next+d) != (m.find(m.next+d) >= 0) {
					t.Fatalf("seed %d: %+v: Next and %d", seed, a, d)
				}
			}
		}
	}
}

// --- one end and the other ---

// way is an Out and an In, and all that ever went between them: it may come at any time, or never, and as often as it likes.
type way struct {
	r     *rand.Rand
	out   *Out
	in    *In
	items []Item
	acks  []Ack
	sent  []string
	came  []string
}

// send: something new, or what is on its way once more.
func (w *way) send() {
	s := strconv.Itoa(len(w.sent))
	if _, e := w.out.Push(s); e == api.OK {
		w.sent = append(w.sent, s)
	}
	for _, x := range w.out.All() {
		if w.r.Intn(3) == 0 {
			w.items = append(w.items, x)
		}
	}
}

// pick: one of those that went lately, or of all, if it is lucky.
func pick[T any](r *rand.Rand, l []T) T {
	if r.Intn(4) > 0 {
		l = l[max(0, len(l)-60):]
	}
	return l[r.Intn(len(l))]
}

func (w *way) itemComes(t *testing.T) {
	if len(w.items) == 0 {
		return
	}
	l, e := w.in.Put(pick(w.r, w.items))
	if e == api.ErrFull {
		t.Fatal("what was sent is too far ahead of what is awaited")
	}
	w.came = append(w.came, l...)
	if w.r.Intn(2) == 0 {
		w.acks = append(w.acks, w.in.Ack())
	}
}

func (w *way) ackComes() {
	if len(w.acks) > 0 {
		w.out.Ack(pick(w.r, w.acks))
	}
}

// check: what came is the front of what was sent, and what is on its way and waits isn't too wide.
func (w *way) check(t *testing.T) {
	t.Helper()
	if len(w.came) > len(w.sent) || !slices.Equal(w.came, w.sent[:len(w.came)]) {
		t.Fatalf("came: %q, of %d", w.came, len(w.sent))
	}
	if l := w.out.All(); len(l) > 32 || len(l) > 0 && w.out.Next()-l[0].N > 32 {
		t.Fatalf("on their way: %v, next %d", l, w.out.Next())
	}
	if w.in.Len() > 32 {
		t.Fatalf("%d wait", w.in.Len())
	}
}

// P13.2, P13.3: whatever is lost, comes twice, long behind, or in another order.
func TestOrder(t *testing.T) {
	for seed := range int64(48) {
		r := rand.New(rand.NewSource(seed))
		first := firsts[int(seed)%len(firsts)]
		w := &way{r: r, out: Begin(first), in: Expect(first)}
		for range 2000 {
			switch r.Intn(4) {
			case 0:
				w.send()
			case 1:
				w.ackComes()
			default:
				w.itemComes(t)
			}
			w.check(t)
		}
		if len(w.came) < 100 {
			t.Errorf("seed %d: only %d came", seed, len(w.came))
		}
		for _, x := range w.out.All() { // all that is on its way comes, and its ack: nothing is wanting then
			l, _ := w.in.Put(x)
			w.came = append(w.came, l...)
		}
		w.out.Ack(w.in.Ack())
		if w.out.Len() != 0 || w.in.Len() != 0 || !slices.Equal(w.came, w.sent) {
			t.Errorf("seed %d: %d on their way, %d wait, %d of %d came", seed, w.out.Len(), w.in.Len(), len(w.came), len(w.sent))
		}
	}
}
