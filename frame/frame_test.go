package frame

import (
	"math"
	"math/rand"
	"slices"
	"strings"
	"testing"

	"cotillion/api"
	"cotillion/wire"
)

// upTo: the values from first on, so many.
func upTo(first int64, count int) []int64 {
	l := make([]int64, count)
	for k := range l {
		l[k] = first + int64(k)
	}
	return l
}

// anyValue: values of all lengths, of both signs.
func anyValue(r *rand.Rand) int64 {
	return int64(r.Uint64()) >> r.Intn(64)
}

// emptied: all of a stack's values, one by one from the last on, put back in the order of their pushes.
func emptied(s *Stack) []int64 {
	var l []int64
	for s.Len() > 0 {
		l = append(l, s.Pop())
	}
	slices.Reverse(l)
	return l
}

// --- stack ---

// P6.1: the zero stack is empty.
func TestZeroStack(t *testing.T) {
	var s Stack
	l, ok := s.Take(1)
	if s.Len() != 0 || s.Pop() != 0 || l != nil || ok || s.Len() != 0 {
		t.Errorf("the zero Stack: %d values", s.Len())
	}
	if l, ok := s.Take(0); len(l) != 0 || !ok {
		t.Errorf("Take(0): %v %v", l, ok)
	}
}

// P6.1: what is pushed last goes first; Take tells in the order of the pushes.
func TestPushPopTake(t *testing.T) {
	var s Stack
	if !s.Push(1, 2, 3) || s.Len() != 3 {
		t.Fatalf("Push: %d values", s.Len())
	}
	if l, ok := s.Take(2); !ok || !slices.Equal(l, []int64{2, 3}) || s.Len() != 1 {
		t.Errorf("Take(2): %v %v", l, ok)
	}
	if !s.Push(math.MinInt64) || !s.Push() || !s.Push(math.MaxInt64, 0) || s.Len() != 4 {
		t.Errorf("Push: %d values", s.Len())
	}
	for _, want := range []int64{0, math.MaxInt64, math.MinInt64, 1, 0, 0} {
		if x := s.Pop(); x != want {
			t.Errorf("Pop: %d, not %d", x, want)
		}
	}
	if s.Len() != 0 || !s.Push(5) || s.Len() != 1 || s.Pop() != 5 {
		t.Error("a Pop of nothing has left something")
	}
}

// P6.1: at most 64, and of more none at all.
func TestPushLimit(t *testing.T) {
	for have := range api.MaxStack + 1 {
		for _, more := range []int{0, 1, 63 - have, 64 - have, 65 - have, 64, 65, 1000} {
			if more < 0 {
				continue
			}
			var s Stack
			for k := range have {
				if !s.Push(int64(k)) {
					t.Fatalf("Push of value %d", k)
				}
			}
			want := upTo(0, have)
			ok := have+more <= 64
			if ok {
				want = append(want, upTo(500, more)...)
			}
			if got := s.Push(upTo(500, more)...); got != ok || s.Len() != len(want) {
				t.Fatalf("Push of %d behind %d: %v, %d values", more, have, got, s.Len())
			}
			if l := emptied(&s); !slices.Equal(l, want) {
				t.Fatalf("Push of %d behind %d: %v", more, have, l)
			}
		}
	}
}

// P6.1: Take of each number of values, and of those that aren't there.
func TestTakeLimit(t *testing.T) {
	for have := range api.MaxStack + 1 {
		for _, n := range []int{math.MinInt, -have - 1, -have, -1, 0, 1, have - 1, have, have + 1, 64, 65, math.MaxInt} {
			var s Stack
			s.Push(upTo(10, have)...)
			l, ok := s.Take(n)
			if n < 0 || n > have {
				if l != nil || ok || !slices.Equal(emptied(&s), upTo(10, have)) {
					t.Fatalf("Take(%d) of %d: %v %v", n, have, l, ok)
				}
				continue
			}
			if !ok || !slices.Equal(l, upTo(10+int64(have-n), n)) || s.Len() != have-n || !slices.Equal(emptied(&s), upTo(10, have-n)) {
				t.Fatalf("Take(%d) of %d: %v %v", n, have, l, ok)
			}
		}
	}
}

// K3: Push keeps nothing of its list, nor changes it; what Take answers is new memory.
func TestStackSharesNothing(t *testing.T) {
	var s Stack
	l := []int64{1, 2, 3}
	s.Push(l...)
	l[2] = 9
	taken, _ := s.Take(2)
	s.Push(7, 8)
	if !slices.Equal(taken, []int64{2, 3}) {
		t.Errorf("taken: %v", taken)
	}
	taken[0], taken[1] = 50, 60
	_ = append(taken[:0], 70, 80, 90)
	if !slices.Equal(emptied(&s), []int64{1, 7, 8}) || !slices.Equal(l, []int64{1, 2, 9}) {
		t.Errorf("the list: %v", l)
	}
	s.Push(1, 2)
	other := s
	s.Pop()
	s.Push(5)
	if !slices.Equal(emptied(&other), []int64{1, 2}) {
		t.Error("a copy of a stack shares its values")
	}
}

// P6.1: behind any calls, against a list.
func TestStackByChance(t *testing.T) {
	r := rand.New(rand.NewSource(61))
	for range 100 {
		var s Stack
		var model []int64
		for range 300 {
			switch r.Intn(3) {
			case 0:
				l := make([]int64, r.Intn(40)>>r.Intn(4))
				for k := range l {
					l[k] = anyValue(r)
				}
				ok := len(model)+len(l) <= 64
				if ok {
					model = append(model, l...)
				}
				if s.Push(l...) != ok {
					t.Fatalf("Push of %d to %d", len(l), len(model))
				}
			case 1:
				var want int64
				if k := len(model) - 1; k >= 0 {
					want, model = model[k], model[:k]
				}
				if x := s.Pop(); x != want {
					t.Fatalf("Pop: %d, not %d", x, want)
				}
			case 2:
				n := r.Intn(24)>>r.Intn(3) - 1
				ok := n >= 0 && n <= len(model)
				var want []int64
				if ok {
					k := len(model) - n
					want, model = model[k:], slices.Clone(model[:k])
				}
				if l, got := s.Take(n); got != ok || !slices.Equal(l, want) {
					t.Fatalf("Take(%d): %v %v, not %v", n, l, got, want)
				}
			}
			if s.Len() != len(model) {
				t.Fatalf("Len: %d, not %d", s.Len(), len(model))
			}
		}
		if !slices.Equal(emptied(&s), model) {
			t.Fatal("what is left")
		}
	}
}

// --- frame ---

// P6.1: so many locals, from none to 16, the first of which are the arguments.
func TestMake(t *testing.T) {
	for _, locals := range []int{math.MinInt, -1, 0, 1, 2, 4, 15, 16, 17, 1000, math.MaxInt} {
		for _, args := range []int{0, 1, 2, 4, 15, 16, 17, 100} {
			f := Make(3, locals, upTo(70, args)...)
			have := min(max(locals, 0), 16)
			if f.Func != 3 || f.At != 0 || f.Len() != 0 {
				t.Fatalf("Make(3, %d): %d %d %d", locals, f.Func, f.At, f.Len())
			}
			for n := range 20 {
				var want int64
				if n < have && n < args {
					want = 70 + int64(n)
				}
				if x := f.Local(n); x != want {
					t.Fatalf("Make(3, %d) of %d args: local %d: %d, not %d", locals, args, n, x, want)
				}
				if f.SetLocal(n, -5) != (n < have) {
					t.Fatalf("Make(3, %d): SetLocal(%d)", locals, n)
				}
			}
		}
	}
}

// P6.1: Func is what was handed in, whatever that is.
func TestMakeOfAnyFunction(t *testing.T) {
	for _, fn := range []int{math.MinInt, -1, 0, 15, 16, math.MaxInt} {
		if f := Make(fn, 1); f.Func != fn || f.At != 0 {
			t.Errorf("Make(%d): %d, at %d", fn, f.Func, f.At)
		}
	}
}

// P6.1: SetLocal is seen by Local, of that local alone; of one that isn't there nothing is.
func TestLocals(t *testing.T) {
	f := Make(0, 4, 7, 8)
	for n, x := range []int64{math.MinInt64, -1, math.MaxInt64, 9} {
		if !f.SetLocal(n, x) {
			t.Errorf("SetLocal(%d)", n)
		}
	}
	for _, n := range []int{math.MinInt, -4, -1, 4, 5, 16, math.MaxInt} {
		if f.SetLocal(n, 77) || f.Local(n) != 0 {
			t.Errorf("local %d: %d", n, f.Local(n))
		}
	}
	for n, x := range []int64{math.MinInt64, -1, math.MaxInt64, 9} {
		if f.Local(n) != x {
			t.Errorf("local %d: %d, not %d", n, f.Local(n), x)
		}
	}
	if f.Len() != 0 || f.Func != 0 || f.At != 0 {
		t.Error("SetLocal has changed more than a local")
	}
}

// P6.1: a stack's calls are the frame's own, and each frame has its own.
func TestFrameHasItsStack(t *testing.T) {
	f, g := Make(1, 1, 5), Make(1, 1, 5)
	f.At = 12
	if !f.Push(1, 2, 3) || f.Len() != 3 || f.Stack.Len() != 3 || f.Stack.Pop() != 3 || f.Pop() != 2 {
		t.Error("Push")
	}
	f.SetLocal(0, 6)
	if g.Len() != 0 || g.Local(0) != 5 || g.At != 0 {
		t.Error("two frames share something")
	}
	if l, ok := f.Take(1); !ok || !slices.Equal(l, []int64{1}) || f.At != 12 || f.Func != 1 || f.Local(0) != 6 {
		t.Errorf("Take: %v %v", l, ok)
	}
}

// K1, K3: a frame keeps nothing of the list of its arguments, nor changes it; no list is an empty one.
func TestMakeKeepsNothing(t *testing.T) {
	l := []int64{1, 2, 3}
	f := Make(0, 3, l...)
	l[0] = 9
	f.SetLocal(1, 8)
	if f.Local(0) != 1 || !slices.Equal(l, []int64{9, 2, 3}) {
		t.Errorf("local 0: %d; the list: %v", f.Local(0), l)
	}
	if Make(0, 2, nil...).Local(0) != 0 || Make(0, 2, []int64{}...).Local(1) != 0 {
		t.Error("no arguments")
	}
}

// --- heap ---

// outside: numbers that no cell has; the greater ones would be cells, if they were cut to fewer bits.
func outside() []int64 {
	return []int64{math.MinInt64, -1 << 32, -64, -1, 64, 65, 256, 1 << 32, 1<<32 + 5, math.MaxInt64}
}

// P6.1: the zero heap has 64 cells, all 0.
func TestZeroHeap(t *testing.T) {
	var h Heap
	for n := range int64(64) {
		if x, ok := h.Get(n); x != 0 || !ok {
			t.Errorf("cell %d: %d %v", n, x, ok)
		}
	}
	if h.Text() != "\x00" {
		t.Errorf("Text: %x", h.Text())
	}
}

// P6.1: Put is seen by Get, of that cell alone; there are no others than 0 to 63.
func TestHeapCells(t *testing.T) {
	var h Heap
	for n := range int64(64) {
		if !h.Put(n, 1) || !h.Put(n, n-1<<62) {
			t.Errorf("Put(%d)", n)
		}
	}
	before := h.Text()
	for _, n := range outside() {
		if x, ok := h.Get(n); x != 0 || ok {
			t.Errorf("Get(%d): %d %v", n, x, ok)
		}
		if h.Put(n, 5) || h.Text() != before {
			t.Errorf("Put(%d)", n)
		}
	}
	for n := range int64(64) {
		if x, ok := h.Get(n); x != n-1<<62 || !ok {
			t.Errorf("Get(%d): %d %v", n, x, ok)
		}
	}
}

// P6.1: how a heap is spelt: up to the last cell that isn't 0.
func TestHeapText(t *testing.T) {
	top := "\xff\xff\xff\xff\xff\xff\xff\xff\xff\x01"
	for _, c := range []struct {
		puts [][2]int64
		want string
	}{
		{nil, "\x00"},
		{[][2]int64{{0, 1}}, "\x01\x02"},
		{[][2]int64{{0, -1}}, "\x01\x01"},
		{[][2]int64{{1, 300}}, "\x02\x00\xd8\x04"},
		{[][2]int64{{0, -64}, {2, 64}}, "\x03\x7f\x00\x80\x01"},
		{[][2]int64{{0, math.MinInt64}}, "\x01" + top},
		{[][2]int64{{0, math.MaxInt64}}, "\x01\xfe" + top[1:]},
		{[][2]int64{{63, 1}}, "\x40" + strings.Repeat("\x00", 63) + "\x02"},
		{[][2]int64{{63, 1}, {62, -2}, {63, 0}}, "\x3f" + strings.Repeat("\x00", 62) + "\x03"},
		{[][2]int64{{5, 1}, {0, 2}, {5, 0}}, "\x01\x04"},
		{[][2]int64{{5, 1}, {5, 0}}, "\x00"},
	} {
		var h Heap
		for _, p := range c.puts {
			h.Put(p[0], p[1])
		}
		if s := h.Text(); s != c.want || h.Text() != s {
			t.Errorf("Text of %v: %x, not %x", c.puts, s, c.want)
		}
	}
}

// anyHeap: as many cells as by chance, of which the last one may be 0.
func anyHeap(r *rand.Rand) *Heap {
	var h Heap
	for n := range int64(r.Intn(65)) {
		if r.Intn(3) > 0 {
			h.Put(n, anyValue(r))
		}
	}
	return &h
}

// P6.2: what is read of a heap's bytes is that heap; what stands behind is left.
func TestThereAndBack(t *testing.T) {
	r := rand.New(rand.NewSource(62))
	for range 1000 {
		h := anyHeap(r)
		i := wire.Open(h.Text() + "\x01\x00\xff")
		g := Read(i)
		if g == nil || i.Err() != api.OK || i.Raw(3) != "\x01\x00\xff" || i.End() != api.OK {
			t.Fatalf("Read(%x): %d", h.Text(), i.Err())
		}
		for n := range int64(64) {
			x, _ := h.Get(n)
			if y, ok := g.Get(n); x != y || !ok {
				t.Fatalf("Read(%x): cell %d: %d, not %d", h.Text(), n, y, x)
			}
		}
		if g.Text() != h.Text() {
			t.Fatalf("Read(%x): %x", h.Text(), g.Text())
		}
		g.Put(3, 12345) // and it goes on by itself
		if x, _ := h.Get(3); x == 12345 {
			t.Fatal("two heaps share a cell")
		}
	}
}

// P6.1: several heaps, one behind the other.
func TestReadOneByOne(t *testing.T) {
	i := wire.Open("\x01\x02" + "\x00" + "\x02\x00\x01")
	for _, want := range []string{"\x01\x02", "\x00", "\x02\x00\x01"} {
		if h := Read(i); h == nil || h.Text() != want {
			t.Fatalf("Read: not %x", want)
		}
	}
	if h := Read(i); h != nil || i.Err() != api.ErrEnd {
		t.Errorf("Read of nothing: %d", i.Err())
	}
}

// P6.1: wrong bytes, and which error comes first.
func TestReadErrors(t *testing.T) {
	zeros := strings.Repeat("\x00", 64)
	more := strings.Repeat("\xff", 9)
	for _, c := range []struct {
		name, bytes string
		want        api.Errno
	}{
		{"nothing", "", api.ErrEnd},
		{"a count that goes on", "\x80", api.ErrEnd},
		{"a count of two spellings", "\x81\x00\x02", api.ErrForm},
		{"a count above 64 bits", more + "\x02", api.ErrForm},
		{"65 cells", "\x41" + zeros + "\x02", api.ErrBig},
		{"65 cells, and no bytes", "\x41", api.ErrBig},
		{"2^64 - 1 cells", more + "\x01", api.ErrBig},
		{"one cell, and no bytes", "\x01", api.ErrEnd},
		{"two cells, and one", "\x02\x01", api.ErrEnd},
		{"64 cells, and 63", "\x40" + zeros[:63], api.ErrEnd},
		{"a cell that goes on", "\x01\x80", api.ErrEnd},
		{"a cell of two spellings", "\x01\x82\x00", api.ErrForm},
		{"a cell above 64 bits", "\x02\x02" + more + "\x02", api.ErrForm},
		{"a last cell that is 0", "\x01\x00", api.ErrForm},
		{"a last cell that is 0, behind another one", "\x02\x02\x00\x02", api.ErrForm},
		{"64 cells that are 0", "\x40" + zeros, api.ErrForm},
		{"a cell that is 0, and none behind it", "\x02\x00", api.ErrEnd},
	} {
		i := wire.Open(c.bytes)
		if h := Read(i); h != nil || i.Err() != c.want || i.Len() != 0 {
			t.Errorf("%s: %v, %d, not %d", c.name, h, i.Err(), c.want)
		}
	}
}

// P6.1: an error that is there ahead stays.
func TestReadBehindError(t *testing.T) {
	for _, e := range []api.Errno{api.ErrEnd, api.ErrForm, api.ErrSum, api.ErrGone} {
		i := wire.Open("\x01\x02")
		i.Fail(e)
		if h := Read(i); h != nil || i.Err() != e {
			t.Errorf("Read behind %d: %v, %d", e, h, i.Err())
		}
	}
}

// P6.1: each end that is cut off a heap's bytes is wanting.
func TestReadOfCutBytes(t *testing.T) {
	r := rand.New(rand.NewSource(63))
	for range 100 {
		s := anyHeap(r).Text()
		for k := range len(s) {
			i := wire.Open(s[:k])
			if h := Read(i); h != nil || i.Err() != api.ErrEnd {
				t.Fatalf("Read(%x): %d", s[:k], i.Err())
			}
		}
	}
}

// P6.2: of any bytes comes an error, or a heap whose bytes are just those that were taken.
func TestReadOfAnyBytes(t *testing.T) {
	r := rand.New(rand.NewSource(64))
	heaps := 0
	for range 20000 {
		b := make([]byte, 1+r.Intn(12))
		r.Read(b)
		b[0] >>= r.Intn(8)
		i := wire.Open(string(b))
		h := Read(i)
		if (h == nil) != (i.Err() != api.OK) {
			t.Fatalf("Read(%x): %d", b, i.Err())
		}
		if h == nil {
			continue
		}
		heaps++
		if taken := string(b[:len(b)-i.Len()]); h.Text() != taken {
			t.Fatalf("Read(%x): %x", taken, h.Text())
		}
	}
	if heaps < 1000 {
		t.Errorf("only %d of them were heaps", heaps)
	}
}
