package dice

import (
	"math"
	"math/big"
	"math/rand"
	"slices"
	"testing"

	"cotillion/api"
	"cotillion/wire"
)

const golden = 0x9e3779b97f4a7c15 // how far a state goes on, of the chapter

// someStates: edges, and others, the same ones on every run.
func someStates() []uint64 {
	l := []uint64{0, 1, 2, 5, golden, math.MaxInt64, 1 << 63, math.MaxUint64 - golden, math.MaxUint64 - golden + 1, math.MaxUint64 - golden + 2, math.MaxUint64}
	r := rand.New(rand.NewSource(5))
	for range 300 {
		l = append(l, r.Uint64())
	}
	return l
}

func hex(s string) *big.Int {
	n, _ := new(big.Int).SetString(s, 16)
	return n
}

// slowNumber: the number of a state, in the chapter's words, of numbers without an end.
func slowNumber(state uint64) uint64 {
	x := new(big.Int).SetUint64(state)
	all := new(big.Int).Lsh(big.NewInt(1), 64)
	x.Xor(x, new(big.Int).Rsh(x, 30))
	x.Mod(x.Mul(x, hex("bf58476d1ce4e5b9")), all)
	x.Xor(x, new(big.Int).Rsh(x, 27))
	x.Mod(x.Mul(x, hex("94d049bb133111eb")), all)
	x.Xor(x, new(big.Int).Rsh(x, 31))
	return x.Uint64()
}

// slowBelow: a number times n, by 2^64, rounded down.
func slowBelow(number uint64, n int64) int64 {
	x := new(big.Int).SetUint64(number)
	x.Mul(x, big.NewInt(n))
	return x.Rsh(x, 64).Int64()
}

// P5.1: Next, of seeds whose numbers are known.
func TestKnownNumbers(t *testing.T) {
	for _, c := range []struct {
		seed uint64
		want []uint64
	}{
		{0, []uint64{0xe220a8397b1dcdaf, 0x6e789e6aa1b965f4, 0x06c45d188009454f, 0xf88bb8a8724c81ec, 0x1b39896a51a8749b}},
		{1234567, []uint64{6457827717110365317, 3203168211198807973, 9817491932198370423, 4593380528125082431, 16408922859458223821}},
	} {
		d := New(c.seed)
		for k, want := range c.want {
			if n := d.Next(); n != want {
				t.Errorf("New(%d), number %d: %x, not %x", c.seed, k, n, want)
			}
		}
	}
}

// P5.1: New has the seed as its state, and State and Text take nothing.
func TestState(t *testing.T) {
	for _, seed := range someStates() {
		d := New(seed)
		for range 3 {
			if d.State() != seed {
				t.Fatalf("New(%x): %x", seed, d.State())
			}
			d.Text()
		}
	}
}

// P5.1: Next goes on by the same step, wraps, and mixes as the chapter says.
func TestNext(t *testing.T) {
	for _, seed := range someStates() {
		d := New(seed)
		state := seed
		for range 20 {
			state += golden
			if n := d.Next(); n != slowNumber(state) || d.State() != state {
				t.Fatalf("of %x: %x and then %x, not %x and %x", seed, n, d.State(), slowNumber(state), state)
			}
		}
	}
}

// P5.1: Below is the number times n by 2^64, and takes just one.
func TestBelow(t *testing.T) {
	limits := []int64{1, 2, 3, 6, 7, 1 << 31, 1<<32 + 1, 1 << 62, math.MaxInt64 - 1, math.MaxInt64}
	for _, seed := range someStates() {
		for _, n := range limits {
			d := New(seed)
			got := d.Below(n)
			if got < 0 || got >= n {
				t.Fatalf("of %x: Below(%d): %d", seed, n, got)
			}
			if want := slowBelow(slowNumber(seed+golden), n); got != want || d.State() != seed+golden {
				t.Fatalf("of %x: Below(%d): %d and then %x, not %d", seed, n, got, d.State(), want)
			}
		}
	}
}

// P5.1: the first and the last number below n both come.
func TestBelowReachesAll(t *testing.T) {
	d := New(9)
	var seen [6]int
	for range 6000 {
		seen[d.Below(6)]++
	}
	for k, n := range seen {
		if n < 850 || n > 1150 {
			t.Errorf("Below(6): %d came %d times", k, n)
		}
	}
}

// P5.1: nothing is taken, if n is below 1.
func TestBelowOfNothing(t *testing.T) {
	for _, seed := range someStates() {
		d := New(seed)
		for _, n := range []int64{0, -1, -6, math.MinInt64 + 1, math.MinInt64} {
			if got := d.Below(n); got != 0 || d.State() != seed {
				t.Fatalf("of %x: Below(%d): %d and then %x", seed, n, got, d.State())
			}
		}
	}
}

// P5.1: Text is the state as layer 2's number, and says it back.
func TestText(t *testing.T) {
	for _, c := range []struct {
		seed uint64
		want string
	}{
		{0, "\x00"},
		{5, "\x05"},
		{127, "\x7f"},
		{128, "\x80\x01"},
		{300, "\xac\x02"},
		{math.MaxUint64, "\xff\xff\xff\xff\xff\xff\xff\xff\xff\x01"},
	} {
		if s := New(c.seed).Text(); s != c.want {
			t.Errorf("New(%d).Text(): %x, not %x", c.seed, s, c.want)
		}
	}
	for _, seed := range someStates() {
		d := New(seed)
		d.Next()
		i := wire.Open(d.Text())
		if n := i.Num(); n != d.State() || i.End() != api.OK {
			t.Fatalf("Text of %x: %x", d.State(), d.Text())
		}
	}
}

// P5.1: Seed, of parts of which it is known.
func TestSeed(t *testing.T) {
	if Seed() != 0 || Seed(nil...) != 0 || Seed([]uint64{}...) != 0 {
		t.Errorf("Seed of none: %x", Seed())
	}
	if n := Seed(0); n != 0xe220a8397b1dcdaf {
		t.Errorf("Seed(0): %x", n)
	}
	if n := Seed(1234567); n != 6457827717110365317 {
		t.Errorf("Seed(1234567): %d", n)
	}
	if Seed(1, 2) == Seed(2, 1) || Seed(7) == Seed(7, 0) || Seed(7) == Seed(0, 7) {
		t.Error("Seed: where a part stands, and how many there are, isn't seen")
	}
}

// P5.1: Seed, part by part, of lists of all lengths.
func TestSeedPartByPart(t *testing.T) {
	states := someStates()
	for k := range 40 {
		parts := states[k : 2*k]
		var want uint64
		for _, p := range parts {
			want = slowNumber((want ^ p) + golden)
		}
		if n := Seed(parts...); n != want {
			t.Fatalf("Seed of %d parts: %x, not %x", k, n, want)
		}
	}
}

// K3: Seed changes nothing of its list.
func TestSeedLeavesItsList(t *testing.T) {
	l := []uint64{3, 1, 2}
	one := Seed(l...)
	if !slices.Equal(l, []uint64{3, 1, 2}) || Seed(l...) != one {
		t.Errorf("Seed: %v", l)
	}
}

// someCall: one call by chance, and what it answered.
func someCall(d *Dice, r *rand.Rand) uint64 {
	switch r.Intn(4) {
	case 0:
		return d.State()
	case 1:
		return uint64(d.Below(int64(r.Uint64()) >> r.Intn(64)))
	case 2:
		return uint64(len(d.Text()))
	}
	return d.Next()
}

// P5.2: whatever calls a dice has behind it, one that is new, of its state, goes on as it does; and neither moves the other.
func TestSameStateSameNumbers(t *testing.T) {
	r := rand.New(rand.NewSource(52))
	for range 200 {
		old := New(r.Uint64())
		for range r.Intn(30) {
			someCall(old, r)
		}
		young := New(old.State())
		asked := r.Int63()
		a, b := rand.New(rand.NewSource(asked)), rand.New(rand.NewSource(asked))
		var want []uint64
		for range 30 {
			want = append(want, someCall(old, a))
		}
		for k := range want {
			if n := someCall(young, b); n != want[k] {
				t.Fatalf("call %d: %x, not %x", k, n, want[k])
			}
		}
		if old.State() != young.State() || old.Text() != young.Text() {
			t.Fatalf("at last: %x, not %x", young.State(), old.State())
		}
	}
}
