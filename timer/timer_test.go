package timer

import (
	"cmp"
	"math"
	"math/rand"
	"slices"
	"testing"

	"cotillion/api"
)

// begin: timers of a config that may be.
func begin(t *testing.T, first, most int) *Timers {
	t.Helper()
	x, e := New(Config{First: first, Most: most})
	if x == nil || e != api.OK {
		t.Fatalf("New of %d, %d: %v, %d", first, most, x, e)
	}
	return x
}

// start: these begin at now, in this order.
func start(t *testing.T, x *Timers, now int, l ...uint32) {
	t.Helper()
	for _, n := range l {
		if !x.Start(n, now) {
			t.Fatalf("Start of %d at %d", n, now)
		}
	}
}

// due: just these are due at now.
func due(t *testing.T, x *Timers, now int, want ...uint32) {
	t.Helper()
	if l := x.Due(now); !slices.Equal(l, want) {
		t.Fatalf("Due of %d: %v, not %v", now, l, want)
	}
}

// next: the next one is due then.
func next(t *testing.T, x *Timers, want int) {
	t.Helper()
	if n, ok := x.Next(); n != want || !ok {
		t.Fatalf("Next: %d, %v, not %d", n, ok, want)
	}
}

// times: it was due so often.
func times(t *testing.T, x *Timers, n uint32, want int) {
	t.Helper()
	if k, ok := x.Times(n); k != want || !ok {
		t.Fatalf("Times of %d: %d, %v, not %d", n, k, ok, want)
	}
}

// none: it doesn't wait.
func none(t *testing.T, x *Timers, n uint32) {
	t.Helper()
	if k, ok := x.Times(n); k != 0 || ok {
		t.Fatalf("Times of %d: %d, %v", n, k, ok)
	}
}

// empty: none waits.
func empty(t *testing.T, x *Timers) {
	t.Helper()
	if n, ok := x.Next(); x.Len() != 0 || n != 0 || ok {
		t.Fatalf("%d wait, Next: %d, %v", x.Len(), n, ok)
	}
}

// P14.1, P14.2: the chapter's example.
func TestExample(t *testing.T) {
	x := begin(t, 2, 5)
	start(t, x, 0, 7)
	var l []int
	for now := range 20 {
		for range x.Due(now) {
			l = append(l, now)
		}
	}
	if !slices.Equal(l, []int{2, 6, 11, 16}) {
		t.Errorf("%v", l)
	}
}

// P14.1: Check and New, at each limit and beyond.
func TestConfig(t *testing.T) {
	const most = 1 << 20
	for c, want := range map[Config]api.Errno{
		{1, 1}: api.OK, {1, 2}: api.OK, {2, 2}: api.OK, {3, 9}: api.OK,
		{1, most}: api.OK, {most, most}: api.OK, {most - 1, most}: api.OK, {1, most - 1}: api.OK,
		{}: api.ErrArg, {0, 1}: api.ErrArg, {0, 9}: api.ErrArg, {-1, 9}: api.ErrArg, {-1, -1}: api.ErrArg,
		{0, most}: api.ErrArg, {1, 0}: api.ErrArg, {2, 1}: api.ErrArg, {10, 9}: api.ErrArg, {3, -3}: api.ErrArg,
		{1, most + 1}: api.ErrArg, {most, most + 1}: api.ErrArg, {most + 1, most + 1}: api.ErrArg,
		{most + 1, most}: api.ErrArg, {1, math.MaxInt}: api.ErrArg, {math.MaxInt, math.MaxInt}: api.ErrArg,
		{math.MinInt, 5}: api.ErrArg, {5, math.MinInt}: api.ErrArg, {math.MinInt, math.MaxInt}: api.ErrArg,
	} {
		if e := c.Check(); e != want {
			t.Errorf("Check of %v: %d", c, e)
		}
		x, e := New(c)
		if e != want || (x == nil) != (want != api.OK) {
			t.Fatalf("New of %v: %v, %d", c, x, e)
		}
		if x != nil {
			empty(t, x)
			if x.Config != c || x.Check() != api.OK {
				t.Errorf("New of %v has %v", c, x.Config)
			}
		}
	}
}

// P14.1: none waits.
func TestNone(t *testing.T) {
	x := begin(t, 1, 1)
	empty(t, x)
	due(t, x, 0)
	due(t, x, 1<<40)
	none(t, x, 0)
	if x.Stop() != 0 || x.Stop(0) != 0 || x.Stop(0, 1, 0) != 0 {
		t.Error("Stop of what never began")
	}
	empty(t, x)
}

// P14.1: Start: First ticks long, and not of what waits already.
func TestStart(t *testing.T) {
	x := begin(t, 3, 9)
	start(t, x, 10, 5)
	next(t, x, 13)
	times(t, x, 5, 0)
	for _, now := range []int{10, 11, 100} {
		if x.Start(5, now) {
			t.Errorf("Start of what waits, at %d", now)
		}
	}
	next(t, x, 13)
	if x.Len() != 1 {
		t.Errorf("Len: %d", x.Len())
	}
	due(t, x, 12)
	times(t, x, 5, 0)
	due(t, x, 13, 5)
	times(t, x, 5, 1)
	if x.Start(5, 13) { // it waits still, as it is due again
		t.Error("Start of what was due")
	}
	times(t, x, 5, 1)
	next(t, x, 19)
}

// P14.1: Start, of all kinds of numbers, at the first and the last ticks.
func TestStartEdges(t *testing.T) {
	for _, n := range []uint32{0, 1, 1 << 31, 1<<31 - 1, math.MaxUint32} {
		for _, now := range []int{0, 1, 1<<31 - 1, 1 << 32, 1<<40 - 1, 1 << 40} {
			x := begin(t, 1<<20, 1<<20)
			start(t, x, now, n)
			next(t, x, now+1<<20)
			due(t, x, now+1<<20-1)
			due(t, x, now+1<<20, n)
			times(t, x, n, 1)
			if x.Stop(n) != 1 {
				t.Errorf("Stop of %d", n)
			}
		}
	}
}

// P14.1: Stop: how many waited, each counted once.
func TestStop(t *testing.T) {
	x := begin(t, 2, 8)
	start(t, x, 0, 1, 2, 3, 4, 5)
	if k := x.Stop(); k != 0 || x.Len() != 5 {
		t.Errorf("Stop of none: %d", k)
	}
	if k := x.Stop(3, 9, 3, 3); k != 1 || x.Len() != 4 {
		t.Errorf("Stop of one, thrice: %d", k)
	}
	none(t, x, 3)
	if k := x.Stop(3); k != 0 || x.Len() != 4 {
		t.Errorf("Stop of one that is stopped: %d", k)
	}
	due(t, x, 2, 1, 2, 4, 5)
	if k := x.Stop(5, 1); k != 2 || x.Len() != 2 {
		t.Errorf("Stop of two: %d", k)
	}
	times(t, x, 2, 1)
	times(t, x, 4, 1)
	due(t, x, 6, 2, 4)
	if k := x.Stop(1, 2, 3, 4, 5); k != 2 {
		t.Errorf("Stop of all: %d", k)
	}
	empty(t, x)
	due(t, x, 100)
}

// P14.1: one that is stopped begins anew, behind all others: First ticks long, never due.
func TestStartAgain(t *testing.T) {
	x := begin(t, 2, 8)
	start(t, x, 0, 1, 2, 3)
	due(t, x, 2, 1, 2, 3)
	due(t, x, 6, 1, 2, 3)
	x.Stop(1)
	start(t, x, 12, 1)
	times(t, x, 1, 0)
	times(t, x, 2, 2)
	next(t, x, 14)
	due(t, x, 14, 2, 3, 1) // all three at 14
	next(t, x, 18)
	due(t, x, 18, 1)
	due(t, x, 22, 2, 3)
}

// P14.1: Due, of several at one tick: in the order in which they began, whatever their numbers are.
func TestDueTogether(t *testing.T) {
	x := begin(t, 4, 10)
	l := []uint32{9, 3, math.MaxUint32, 0, 7, 1 << 31, 4}
	start(t, x, 5, l...)
	due(t, x, 8)
	next(t, x, 9)
	due(t, x, 9, l...)
	due(t, x, 9)
	next(t, x, 17)
	due(t, x, 17, l...)
	for _, n := range l {
		times(t, x, n, 2)
	}
}

// P14.1: Due, of those that were due at unlike ticks: by when they were, not as they began.
func TestDueApart(t *testing.T) {
	x := begin(t, 2, 16)
	start(t, x, 0, 1) // due at 2
	due(t, x, 2, 1)   // at 6
	start(t, x, 2, 2) // at 4
	start(t, x, 3, 3) // at 5
	start(t, x, 3, 4) // at 5
	start(t, x, 4, 0) // at 6
	next(t, x, 4)
	due(t, x, 7, 2, 3, 4, 1, 0)
	for n, k := range map[uint32]int{0: 1, 1: 2, 2: 1, 3: 1, 4: 1} {
		times(t, x, n, k)
	}
	due(t, x, 10)
	due(t, x, 11, 2, 3, 4, 0) // four ticks behind 7, wherever they were due
	due(t, x, 14)
	due(t, x, 15, 1)
}

// P14.1: Due, when ticks are skipped: due once all the same, and then twice as long from the tick that was told.
func TestDueSkips(t *testing.T) {
	x := begin(t, 3, 50)
	start(t, x, 0, 8)
	due(t, x, 1000, 8)
	times(t, x, 8, 1)
	next(t, x, 1006)
	due(t, x, 1000)
	due(t, x, 1005)
	due(t, x, 1<<40, 8)
	next(t, x, 1<<40+12)
	times(t, x, 8, 2)
}

// P14.1: the wait doubles, till it is Most, and stays so.
func TestDoubles(t *testing.T) {
	for c, waits := range map[Config][]int{
		{1, 1}:                 {1, 1, 1, 1},
		{1, 2}:                 {1, 2, 2, 2},
		{1, 3}:                 {1, 2, 3, 3, 3},
		{1, 4}:                 {1, 2, 4, 4, 4},
		{1, 5}:                 {1, 2, 4, 5, 5},
		{2, 3}:                 {2, 3, 3},
		{3, 3}:                 {3, 3, 3},
		{3, 5}:                 {3, 5, 5},
		{3, 6}:                 {3, 6, 6},
		{3, 7}:                 {3, 6, 7, 7},
		{5, 9}:                 {5, 9, 9},
		{7, 100}:               {7, 14, 28, 56, 100, 100},
		{7, 112}:               {7, 14, 28, 56, 112, 112},
		{7, 113}:               {7, 14, 28, 56, 112, 113, 113},
		{600, 999}:             {600, 999, 999},
		{1 << 18, 1 << 20}:     {1 << 18, 1 << 19, 1 << 20, 1 << 20},
		{1<<19 + 1, 1 << 20}:   {1<<19 + 1, 1 << 20, 1 << 20},
		{1<<20 - 1, 1 << 20}:   {1<<20 - 1, 1 << 20, 1 << 20},
		{1 << 20, 1 << 20}:     {1 << 20, 1 << 20},
		{1<<19 - 1, 1<<20 - 1}: {1<<19 - 1, 1<<20 - 2, 1<<20 - 1, 1<<20 - 1},
	} {
		x := begin(t, c.First, c.Most)
		now := 100
		start(t, x, now, 6)
		for k, w := range waits {
			due(t, x, now+w-1)
			now += w
			next(t, x, now)
			times(t, x, 6, k)
			due(t, x, now, 6)
		}
	}
}

// P14.1: Next, the least tick, whoever began first.
func TestNext(t *testing.T) {
	x := begin(t, 2, 64)
	start(t, x, 0, 1)
	due(t, x, 2, 1)
	start(t, x, 2, 2)
	next(t, x, 4) // 2's, as 1 is due at 6
	start(t, x, 3, 3)
	next(t, x, 4)
	x.Stop(2)
	next(t, x, 5)
	x.Stop(3)
	next(t, x, 6)
	x.Stop(1)
	empty(t, x)
}

// P14.1: what asks changes nothing.
func TestAsks(t *testing.T) {
	x := begin(t, 2, 5)
	start(t, x, 0, 1, 2)
	for range 3 {
		next(t, x, 2)
		times(t, x, 1, 0)
		none(t, x, 3)
		due(t, x, 1)
		if x.Len() != 2 || x.Start(2, 1) || x.Stop(3) != 0 {
			t.Fatal("an ask that changes")
		}
	}
	due(t, x, 2, 1, 2)
}

// P14.1, K3: nothing is kept of a list, none is changed, and an answer is the caller's.
func TestShares(t *testing.T) {
	x := begin(t, 2, 5)
	start(t, x, 0, 1, 2, 3, 4)
	l := []uint32{4, 9, 1, 4}
	if x.Stop(l...) != 2 || !slices.Equal(l, []uint32{4, 9, 1, 4}) {
		t.Errorf("Stop changes its list: %v", l)
	}
	l[0], l[1] = 2, 3
	a := x.Due(2)
	if !slices.Equal(a, []uint32{2, 3}) {
		t.Fatalf("Due: %v", a)
	}
	b := x.Due(6)
	a[0], a[1] = 8, 9
	if !slices.Equal(b, []uint32{2, 3}) {
		t.Error("two answers share memory")
	}
	due(t, x, 11, 2, 3)
	if !slices.Equal(b, []uint32{2, 3}) {
		t.Error("a later call changes an answer")
	}
}

// P14.1: two timers have nothing in common.
func TestTwo(t *testing.T) {
	x, y := begin(t, 2, 5), begin(t, 3, 4)
	start(t, x, 0, 1)
	start(t, y, 0, 1, 2)
	due(t, x, 3, 1)
	next(t, y, 3)
	if y.Stop(1, 2) != 2 || x.Len() != 1 {
		t.Error("Stop")
	}
	empty(t, y)
	next(t, x, 7)
}

// slow is timers as the chapter tells them, by numbers.
type slow struct {
	Config
	began int
	waits map[uint32]slowOne
}

type slowOne struct{ began, from, long, times int }

func (s *slow) start(n uint32, now int) bool {
	if _, ok := s.waits[n]; ok {
		return false
	}
	s.began++
	s.waits[n] = slowOne{began: s.began, from: now, long: s.First}
	return true
}

func (s *slow) stop(l ...uint32) int {
	k := 0
	for _, n := range l {
		if _, ok := s.waits[n]; ok {
			delete(s.waits, n)
			k++
		}
	}
	return k
}

func (s *slow) due(now int) []uint32 {
	var l []uint32
	for n, x := range s.waits {
		if x.from+x.long <= now {
			l = append(l, n)
		}
	}
	slices.SortFunc(l, func(a, b uint32) int {
		x, y := s.waits[a], s.waits[b]
		return cmp.Or(cmp.Compare(x.from+x.long, y.from+y.long), cmp.Compare(x.began, y.began))
	})
	for _, n := range l {
		x := s.waits[n]
		x.times++
		x.from = now
		if x.long *= 2; x.long > s.Most {
			x.long = s.Most
		}
		s.waits[n] = x
	}
	return l
}

func (s *slow) next() (int, bool) {
	least, ok := 0, false
	for _, x := range s.waits {
		if !ok || x.from+x.long < least {
			least, ok = x.from+x.long, true
		}
	}
	return least, ok
}

// alike: does all that can be asked tell the same?
func alike(t *testing.T, x *Timers, s *slow) {
	t.Helper()
	n, ok := x.Next()
	if m, is := s.next(); n != m || ok != is || x.Len() != len(s.waits) {
		t.Fatalf("Next: %d, %v, not %d, %v; Len %d, not %d", n, ok, m, is, x.Len(), len(s.waits))
	}
	for n := range uint32(12) {
		k, ok := x.Times(n)
		if w, is := s.waits[n]; k != w.times || ok != is {
			t.Fatalf("Times of %d: %d, %v, not %d, %v", n, k, ok, w.times, is)
		}
	}
}

// P14.1: calls by chance, against a slow model.
func TestByChance(t *testing.T) {
	r := rand.New(rand.NewSource(14))
	for range 300 {
		c := Config{First: 1 + r.Intn(5)}
		c.Most = c.First + r.Intn(20)
		x, s, now := begin(t, c.First, c.Most), &slow{Config: c, waits: map[uint32]slowOne{}}, r.Intn(100)
		for range 100 {
			switch r.Intn(6) {
			case 0, 1:
				n := uint32(r.Intn(12))
				if a, b := x.Start(n, now), s.start(n, now); a != b {
					t.Fatalf("Start of %d: %v", n, a)
				}
			case 2:
				l := make([]uint32, r.Intn(4))
				for k := range l {
					l[k] = uint32(r.Intn(12))
				}
				if a, b := x.Stop(l...), s.stop(l...); a != b {
					t.Fatalf("Stop of %v: %d, not %d", l, a, b)
				}
			default:
				now += r.Intn(1 + r.Intn(6))
				if a, b := x.Due(now), s.due(now); !slices.Equal(a, b) {
					t.Fatalf("Due of %d: %v, not %v", now, a, b)
				}
			}
			alike(t, x, s)
		}
	}
}

// P14.2: if each tick is told, each is due again and again, never less than First ticks apart, never more than Most.
func TestBackoff(t *testing.T) {
	r := rand.New(rand.NewSource(142))
	for range 100 {
		first := 1 + r.Intn(6)
		most := first + r.Intn(30)
		x := begin(t, first, most)
		last := map[uint32]int{} // when it began, or was due
		for now := range 300 {
			for _, n := range x.Due(now) {
				if d := now - last[n]; d < first || d > most {
					t.Fatalf("%d, %d: %d ticks apart", first, most, d)
				}
				last[n] = now
			}
			if n := uint32(r.Intn(40)); x.Start(n, now) {
				last[n] = now
			}
			for n, at := range last {
				if _, ok := x.Times(n); !ok || now-at > most {
					t.Fatalf("%d, %d: %d wasn't due for %d ticks", first, most, n, now-at)
				}
			}
		}
	}
}

// P14.2: if ticks are skipped, never less than First apart all the same, and each that is overdue is told.
func TestBackoffSkips(t *testing.T) {
	r := rand.New(rand.NewSource(143))
	for range 100 {
		first := 1 + r.Intn(6)
		most := first + r.Intn(30)
		x := begin(t, first, most)
		last, now := map[uint32]int{}, 0
		for range 100 {
			now += r.Intn(12)
			told := x.Due(now)
			for n, at := range last {
				is := slices.Contains(told, n)
				if is && now-at < first || !is && now-at >= most {
					t.Fatalf("%d, %d: %d, %d ticks behind, told: %v", first, most, n, now-at, is)
				}
				if is {
					last[n] = now
				}
			}
			if len(told) > len(last) {
				t.Fatalf("Due: %v", told)
			}
			if n := uint32(r.Intn(20)); x.Start(n, now) {
				last[n] = now
			}
		}
	}
}
