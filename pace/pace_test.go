package pace

import (
	"math"
	"math/rand"
	"slices"
	"testing"

	"cotillion/api"
)

const most = 1 << 20 // what an answer counts as at most, of the chapter

// paces: all that may be.
func paces() []Pace {
	var l []Pace
	for ticks := 1; ticks <= 64; ticks++ {
		for delay := 1; delay <= 6; delay++ {
			l = append(l, Pace{ticks, delay})
		}
	}
	return l
}

// wrong: some that may not be.
func wrong() []Pace {
	return []Pace{{}, {0, 1}, {1, 0}, {-1, 1}, {1, -1}, {65, 1}, {64, 7}, {1, 7}, {65, 7}, {0, 7}, {65, 0},
		{math.MaxInt, 1}, {1, math.MaxInt}, {math.MinInt, 1}, {1, math.MinInt}, {1<<32 + 1, 1}, {1, 1<<32 + 1}}
}

// meter: one with these answers.
func meter(ticks ...int) *Meter {
	m := new(Meter)
	m.Add(ticks...)
	return m
}

// eight: the answer is the last, and the other seven are alike.
func eight(ticks, last int) *Meter {
	return meter(ticks, ticks, ticks, ticks, ticks, ticks, ticks, last)
}

// tells: so many answers, with that for the greatest one and that for the mean.
func tells(t *testing.T, m *Meter, count, worst, mean int) {
	t.Helper()
	if m.Len() != count || m.Worst() != worst || m.Mean() != mean {
		t.Errorf("%d answers, %d, %d, not %d, %d, %d", m.Len(), m.Worst(), m.Mean(), count, worst, mean)
	}
}

// next: of that pace this one comes.
func next(t *testing.T, m *Meter, p, want Pace) {
	t.Helper()
	if q := m.Next(p); q != want {
		t.Errorf("%v: Next of %v: %v, not %v", m, p, q, want)
	}
}

// --- paces ---

// P17.1: Check: Ticks 0, 1, 64, 65, Delay 0, 1, 6, 7, and far from them.
func TestCheck(t *testing.T) {
	if MostDelay != 6 || MostTicks != 64 || Row != 8 {
		t.Fatalf("%d, %d, %d", MostDelay, MostTicks, Row)
	}
	for _, p := range paces() {
		if e := p.Check(); e != api.OK {
			t.Errorf("Check of %v: %d", p, e)
		}
	}
	for _, p := range wrong() {
		if e := p.Check(); e != api.ErrArg {
			t.Errorf("Check of %v: %d", p, e)
		}
	}
}

// --- meters ---

// P17.1: the zero Meter has none; no answers, nil or empty, add none.
func TestMeterNone(t *testing.T) {
	var m Meter
	tells(t, &m, 0, 0, 0)
	m.Add()
	m.Add([]int{}...)
	tells(t, &m, 0, 0, 0)
	next(t, &m, Pace{10, 3}, Pace{10, 3})
}

// P17.1: Add: each of these is the last one, below 0 it is 0, and the eldest goes, as the ninth comes.
func TestAdd(t *testing.T) {
	m := meter(800)
	tells(t, m, 1, 800, 800)
	m.Add(-1)
	tells(t, m, 2, 800, 400)
	m.Add(math.MinInt, 0, 1)
	tells(t, m, 5, 800, 160)
	m.Add(7)
	tells(t, m, 6, 800, 134)
	m.Add(0)
	tells(t, m, 7, 800, 115)
	m.Add(2)
	tells(t, m, 8, 800, 101)
	m.Add(3) // 800 goes
	tells(t, m, 8, 7, 1)
	m.Add(900, 1, 1, 1, 1, 1, 1)
	tells(t, m, 8, 900, 113) // 3, 900, and six
	m.Add(1)
	tells(t, m, 8, 900, 113) // 3 goes
	m.Add(1)
	tells(t, m, 8, 1, 1)
	m.Add(99, 98, 97, 8, 7, 6, 5, 4, 3, 2, 9) // more than eight at once
	tells(t, m, 8, 9, 5)
}

// P17.1: only answers below 0: the greatest one is 0.
func TestAddBelow(t *testing.T) {
	m := new(Meter)
	for n := range 20 {
		m.Add(-5, math.MinInt)
		tells(t, m, min(2*n+2, 8), 0, 0)
	}
}

// P17.1: Mean, rounded down, of fewer than eight, too.
func TestMean(t *testing.T) {
	for want, l := range map[int][]int{
		0: {0, 0, 0, 0, 0, 0, 0, 7}, 1: {0, 0, 0, 0, 0, 0, 0, 8}, 2: {1, 2, 2, 2, 2, 2, 2, 3}, 3: {3}, 4: {4, 5},
		5: {7, 5, 5}, 6: {6, 6, 6, 6, 6, 6, 6, 13}, 7: {7, 7, 7, 7, 7, 7, 7, 8},
	} {
		if m := meter(l...); m.Mean() != want || m.Len() != len(l) {
			t.Errorf("Mean of %v: %d, not %d", l, m.Mean(), want)
		}
	}
}

// P17.1: answers of 2^20, and more: they count as 2^20 in the mean, but the greatest one is told as it is.
func TestLongAnswers(t *testing.T) {
	tells(t, meter(most-1), 1, most-1, most-1)
	tells(t, meter(most), 1, most, most)
	tells(t, meter(most+1), 1, most+1, most)
	tells(t, meter(math.MaxInt), 1, math.MaxInt, most)
	tells(t, eight(most, most), 8, most, most)
	tells(t, eight(most, most-1), 8, most, most-1)
	tells(t, eight(math.MaxInt, math.MaxInt), 8, math.MaxInt, most)
	tells(t, eight(0, math.MaxInt), 8, math.MaxInt, most/8)
	tells(t, eight(-1, most+7), 8, most+7, most/8)
}

// P17.1: Next: the pace as it is, till there are eight.
func TestNextFew(t *testing.T) {
	for _, ticks := range []int{0, 20, 21, 1000, math.MaxInt} {
		m := new(Meter)
		for range 7 {
			m.Add(ticks)
			for _, p := range paces() {
				next(t, m, p, p)
			}
		}
	}
	m := meter(25, 25, 25, 25, 25, 25, 25)
	next(t, m, Pace{10, 2}, Pace{10, 2})
	m.Add(25)
	next(t, m, Pace{10, 2}, Pace{10, 3})
	m.Add(25)
	next(t, m, Pace{10, 2}, Pace{10, 3})
}

// P17.1: the chapter's example.
func TestExample(t *testing.T) {
	m := eight(25, 25)
	next(t, m, Pace{10, 1}, Pace{10, 2})
	next(t, m, Pace{10, 2}, Pace{10, 3})
	next(t, m, Pace{10, 3}, Pace{10, 3})
}

// P17.1: need just at, above and below Delay.
func TestNextNeed(t *testing.T) {
	for _, c := range []struct {
		worst int
		p, q  Pace
	}{
		{30, Pace{10, 3}, Pace{10, 3}},
		{31, Pace{10, 3}, Pace{10, 4}},
		{21, Pace{10, 3}, Pace{10, 3}}, // rounded up
		{20, Pace{10, 3}, Pace{10, 2}},
		{0, Pace{10, 3}, Pace{10, 2}},
		{10, Pace{10, 1}, Pace{10, 1}},
		{11, Pace{10, 1}, Pace{10, 2}},
		{0, Pace{10, 1}, Pace{10, 1}}, // below Delay, which is 1
		{0, Pace{1, 1}, Pace{1, 1}},
		{0, Pace{10, 2}, Pace{10, 1}},
		{1, Pace{1, 1}, Pace{1, 1}},
		{2, Pace{1, 1}, Pace{1, 2}},
		{6, Pace{1, 5}, Pace{1, 6}},
		{6, Pace{1, 6}, Pace{1, 6}},
		{7, Pace{1, 6}, Pace{2, 6}}, // Delay is 6
		{50, Pace{10, 5}, Pace{10, 5}},
		{51, Pace{10, 5}, Pace{10, 6}},
		{60, Pace{10, 6}, Pace{10, 6}},
		{61, Pace{10, 6}, Pace{11, 6}},
		{378, Pace{63, 6}, Pace{63, 6}},
		{379, Pace{63, 6}, Pace{64, 6}},
		{384, Pace{64, 6}, Pace{64, 6}},
		{385, Pace{64, 6}, Pace{64, 6}}, // both are as great as can be
		{most, Pace{64, 6}, Pace{64, 6}},
		{320, Pace{64, 6}, Pace{64, 5}},
		{321, Pace{64, 6}, Pace{64, 6}},
		{65, Pace{64, 1}, Pace{64, 2}},
		{most, Pace{1, 1}, Pace{1, 2}},
		{most, Pace{1, 6}, Pace{2, 6}},
		{most + 1, Pace{64, 5}, Pace{64, 6}},
		{math.MaxInt, Pace{10, 3}, Pace{10, 4}},
		{math.MaxInt, Pace{64, 6}, Pace{64, 6}},
		{math.MaxInt - 1, Pace{2, 6}, Pace{3, 6}},
	} {
		next(t, eight(0, c.worst), c.p, c.q)
	}
}

// P17.1: need is below Delay, and Mean just at, and just below, Ticks times (Delay - 1).
func TestNextMean(t *testing.T) {
	for _, p := range paces() {
		at := p.Ticks * (p.Delay - 1)
		if p.Delay == 1 {
			next(t, eight(0, 0), p, p)
			continue
		}
		next(t, eight(at, at), p, p)
		next(t, eight(at, at-1), p, Pace{p.Ticks, p.Delay - 1})
		next(t, eight(at-1, at), p, Pace{p.Ticks, p.Delay - 1})
		next(t, eight(at-1, at-1), p, Pace{p.Ticks, p.Delay - 1})
		next(t, eight(0, at+1), p, p) // need is Delay
	}
}

// P17.1: of a pace that may not be, of which the chapter says nothing, no call panics.
func TestNextWrong(t *testing.T) {
	for _, p := range wrong() {
		for _, ticks := range []int{0, 5, math.MaxInt} {
			next(t, eight(ticks, 3), p, p)
		}
	}
}

// slowNext: the chapter's words, by sums of what is kept.
func slowNext(l []int, p Pace) Pace {
	if len(l) < 8 {
		return p
	}
	worst, sum := 0, 0
	for _, k := range l[len(l)-8:] {
		k = max(0, min(k, most))
		worst = max(worst, k)
		sum += k
	}
	need := 0
	for need*p.Ticks < worst {
		need++
	}
	if need > p.Delay {
		if p.Delay < 6 {
			return Pace{p.Ticks, p.Delay + 1}
		}
		return Pace{min(p.Ticks+1, 64), p.Delay}
	}
	if need < p.Delay && p.Delay > 1 && sum/8 < p.Ticks*(p.Delay-1) {
		return Pace{p.Ticks, p.Delay - 1}
	}
	return p
}

// far: how many steps one pace is from another one.
func far(p, q Pace) int {
	return max(p.Ticks-q.Ticks, q.Ticks-p.Ticks) + max(p.Delay-q.Delay, q.Delay-p.Delay)
}

// P17.1, P17.2: meters by chance, and all paces: what is next may be, is one step away at most, and is what the chapter says.
func TestNextByChance(t *testing.T) {
	r := rand.New(rand.NewSource(17))
	for range 300 {
		m := new(Meter)
		wide := []int{2, 10, 70, 400, 500, 1 << 21}[r.Intn(6)]
		var l []int
		for range r.Intn(20) {
			some := make([]int, r.Intn(4))
			for k := range some {
				some[k] = r.Intn(wide) - wide/20
			}
			m.Add(some...)
			l = append(l, some...)
		}
		if m.Len() != min(len(l), 8) {
			t.Fatalf("Len: %d of %d", m.Len(), len(l))
		}
		for _, p := range paces() {
			q := m.Next(p)
			if q.Check() != api.OK || far(p, q) > 1 {
				t.Fatalf("Next of %v: %v", p, q)
			}
			if want := slowNext(l, p); q != want {
				t.Fatalf("%v: Next of %v: %v, not %v", l, p, q, want)
			}
		}
	}
}

// P17.2: of Next again and again: it may be, each time, and comes to rest where each answer comes in time, if one can be.
func TestNextRests(t *testing.T) {
	for _, p := range []Pace{{1, 1}, {10, 1}, {10, 6}, {64, 6}, {1, 6}, {33, 3}} {
		for _, ticks := range []int{0, 1, 9, 10, 25, 60, 100, 384, 385, most, math.MaxInt} {
			m, q := eight(ticks, ticks), p
			for range 100 {
				was := q
				if q = m.Next(q); q.Check() != api.OK || far(was, q) > 1 {
					t.Fatalf("%d: Next of %v: %v", ticks, was, q)
				}
			}
			if m.Next(q) != q || ticks <= 384 && q.Ticks*q.Delay < ticks {
				t.Errorf("%d, from %v: %v", ticks, p, q)
			}
		}
	}
}

// K3: what asks changes nothing, no list is kept or changed, and two meters have nothing in common.
func TestMeterShares(t *testing.T) {
	l := []int{-3, 9, 1, 2, -8, 4, 5, 6, 7}
	a, b := meter(l...), meter(3)
	if !slices.Equal(l, []int{-3, 9, 1, 2, -8, 4, 5, 6, 7}) {
		t.Errorf("Add changes its list: %v", l)
	}
	clear(l)
	for range 3 {
		tells(t, a, 8, 9, 4)
		tells(t, b, 1, 3, 3)
		next(t, a, Pace{3, 1}, Pace{3, 2})
	}
	c := *a // a value of its own
	a.Add(90)
	tells(t, &c, 8, 9, 4)
	tells(t, a, 8, 90, 14)
}

// --- plans ---

// begin: a plan of a pace that may be.
func begin(t *testing.T, p Pace) *Plan {
	t.Helper()
	x, e := Begin(p)
	if x == nil || e != api.OK {
		t.Fatalf("Begin of %v: %v, %d", p, x, e)
	}
	return x
}

// change: another one holds from a turn on.
func change(t *testing.T, x *Plan, turn int, p Pace) {
	t.Helper()
	if e := x.Change(turn, p); e != api.OK || x.Last() != turn {
		t.Fatalf("Change at %d: %d, Last %d", turn, e, x.Last())
	}
}

// plan: paces of these Ticks, each from its turn on, the first one from 0 on.
func plan(t *testing.T, ticks int, more ...int) *Plan {
	t.Helper()
	x := begin(t, Pace{ticks, 1})
	for k := 0; k < len(more); k += 2 {
		change(t, x, more[k], Pace{more[k+1], 1})
	}
	return x
}

// at: turns, each with the Ticks of its pace.
func at(t *testing.T, x *Plan, l ...int) {
	t.Helper()
	for k := 0; k < len(l); k += 2 {
		if p := x.At(l[k]); p != (Pace{l[k+1], 1}) {
			t.Errorf("At of %d: %v, not %d", l[k], p, l[k+1])
		}
	}
}

// refuses: no change, for that reason, and nothing else is changed.
func refuses(t *testing.T, x *Plan, turn int, p Pace, want api.Errno) {
	t.Helper()
	last, held := x.Last(), around(x)
	if e := x.Change(turn, p); e != want {
		t.Errorf("Change at %d to %v: %d, not %d", turn, p, e, want)
	}
	if x.Last() != last || !slices.Equal(around(x), held) {
		t.Errorf("Change at %d to %v changes something", turn, p)
	}
}

// around: the paces of all turns that tests have.
func around(x *Plan) []Pace {
	var l []Pace
	for turn := -3; turn < 70; turn++ {
		l = append(l, x.At(turn))
	}
	return l
}

// P17.1: Begin, of each pace that may be, and of others.
func TestBegin(t *testing.T) {
	for _, p := range paces() {
		x := begin(t, p)
		for _, turn := range []int{math.MinInt, -1, 0, 1, 1 << 40, math.MaxInt} {
			if x.At(turn) != p {
				t.Errorf("%v: At of %d: %v", p, turn, x.At(turn))
			}
		}
		if x.Last() != 0 || x.Forget(1<<40) != 0 {
			t.Errorf("%v: Last %d", p, x.Last())
		}
	}
	for _, p := range wrong() {
		if x, e := Begin(p); x != nil || e != api.ErrArg {
			t.Errorf("Begin of %v: %v, %d", p, x, e)
		}
	}
}

// P17.1: At, ahead of the first one, at each, just ahead of it, and behind the last.
func TestAt(t *testing.T) {
	x := plan(t, 10, 5, 20, 6, 30, 40, 10)
	at(t, x, math.MinInt, 10, -1, 10, 0, 10, 1, 10, 4, 10, 5, 20, 6, 30, 7, 30, 39, 30, 40, 10, 41, 10, 1<<40, 10, math.MaxInt, 10)
	x.Forget(5) // the first one holds from 5 on, now
	at(t, x, math.MinInt, 20, 0, 20, 4, 20, 5, 20, 6, 30, 39, 30, 40, 10)
}

// P17.1: Change at Last, below it and above it.
func TestChange(t *testing.T) {
	x, p := plan(t, 10), Pace{20, 1}
	for _, turn := range []int{0, -1, math.MinInt} {
		refuses(t, x, turn, p, api.ErrOld)
	}
	change(t, x, 1, p)
	for _, turn := range []int{1, 0, -1} {
		refuses(t, x, turn, p, api.ErrOld)
	}
	change(t, x, 2, p) // the same pace again is a change, too
	change(t, x, 50, Pace{30, 1})
	for _, turn := range []int{50, 49, 3, 2, 0} {
		refuses(t, x, turn, p, api.ErrOld)
	}
	change(t, x, 51, Pace{64, 6})
	at(t, x, 0, 10, 1, 20, 2, 20, 49, 20, 50, 30)
	if x.At(51) != (Pace{64, 6}) || x.At(52) != (Pace{64, 6}) {
		t.Errorf("At: %v", x.At(51))
	}
	change(t, x, 1<<40, p)
	at(t, x, 1<<40, 20, 1<<40+1, 20)
	if x.At(1<<40-1) != (Pace{64, 6}) {
		t.Errorf("At: %v", x.At(1<<40-1))
	}
}

// K2: a pace that may not be is told ahead of a turn that is too early.
func TestChangeWrong(t *testing.T) {
	x := plan(t, 10, 5, 20)
	for _, p := range wrong() {
		for _, turn := range []int{-1, 0, 4, 5, 6, 60} {
			refuses(t, x, turn, p, api.ErrArg)
		}
	}
	change(t, x, 6, Pace{64, 6})
	change(t, x, 7, Pace{1, 1})
}

// P17.1: Forget, of a turn at which the second pace holds, ahead of it, and behind all.
func TestForget(t *testing.T) {
	for turn, gone := range map[int]int{-1: 0, 0: 0, 4: 0, 5: 1, 6: 1, 8: 1, 9: 2, 10: 2, 19: 2, 20: 3, 21: 3, 1 << 40: 3, math.MaxInt: 3, math.MinInt: 0} {
		x := plan(t, 10, 5, 20, 9, 30, 20, 40)
		held := around(x)
		if n := x.Forget(turn); n != gone {
			t.Errorf("Forget of %d: %d, not %d", turn, n, gone)
		}
		for k, p := range around(x) {
			if k-3 >= turn && p != held[k] {
				t.Errorf("Forget of %d: At of %d: %v, not %v", turn, k-3, p, held[k])
			}
		}
		at(t, x, 0, 10*(1+gone), -1, 10*(1+gone)) // the first one that is left
		if n := x.Forget(turn); n != 0 || x.Last() != 20 {
			t.Errorf("Forget of %d once more: %d, Last %d", turn, n, x.Last())
		}
	}
}

// P17.1: Forget of turn by turn, and changes behind it; the last one never goes.
func TestForgetOn(t *testing.T) {
	x := plan(t, 1, 3, 2, 4, 3)
	for turn, gone := range []int{0, 0, 0, 1, 1, 0, 0} {
		if n := x.Forget(turn); n != gone {
			t.Errorf("Forget of %d: %d, not %d", turn, n, gone)
		}
	}
	at(t, x, 0, 3, 4, 3, 99, 3)
	refuses(t, x, 4, Pace{9, 1}, api.ErrOld)
	change(t, x, 5, Pace{4, 1})
	change(t, x, 12, Pace{5, 1})
	if n := x.Forget(12); n != 2 || x.Last() != 12 {
		t.Errorf("Forget: %d, Last %d", n, x.Last())
	}
	at(t, x, 0, 5, 12, 5)
}

// slow is a plan as the chapter tells it.
type slow struct {
	from []int
	is   []Pace
}

func (s *slow) at(turn int) Pace {
	p := s.is[0]
	for k, from := range s.from {
		if from <= turn {
			p = s.is[k]
		}
	}
	return p
}

func (s *slow) forget(turn int) int {
	n := 0
	for len(s.from) >= 2 && s.from[1] <= turn {
		s.from, s.is = s.from[1:], s.is[1:]
		n++
	}
	return n
}

func (s *slow) change(turn int, p Pace) api.Errno {
	if p.Ticks < 1 || p.Ticks > 64 || p.Delay < 1 || p.Delay > 6 {
		return api.ErrArg
	}
	if turn <= s.from[len(s.from)-1] {
		return api.ErrOld
	}
	s.from, s.is = append(s.from, turn), append(s.is, p)
	return api.OK
}

// P17.1, P17.3: calls by chance, against the slow plan, and a plan that forgets nothing: from the last forgotten turn on they are the same.
func TestPlanByChance(t *testing.T) {
	r := rand.New(rand.NewSource(173))
	for range 300 {
		p := Pace{1 + r.Intn(64), 1 + r.Intn(6)}
		x, whole, s := begin(t, p), begin(t, p), &slow{from: []int{0}, is: []Pace{p}}
		forgot := -3
		for range 60 {
			turn := x.Last() - 2 + r.Intn(6)
			if r.Intn(4) == 0 {
				turn = r.Intn(70)
				forgot = max(forgot, turn)
				if a, b := x.Forget(turn), s.forget(turn); a != b {
					t.Fatalf("Forget of %d: %d, not %d", turn, a, b)
				}
			} else {
				p := Pace{r.Intn(66), r.Intn(8)}
				e := x.Change(turn, p)
				if f := s.change(turn, p); e != f || whole.Change(turn, p) != f {
					t.Fatalf("Change at %d to %v: %d, not %d", turn, p, e, f)
				}
			}
			held := around(whole)
			for k, p := range around(x) {
				if p != s.at(k-3) || k-3 >= forgot && p != held[k] {
					t.Fatalf("At of %d: %v, not %v, %v", k-3, p, s.at(k-3), held[k])
				}
			}
			if x.Last() != s.from[len(s.from)-1] || x.Last() != whole.Last() {
				t.Fatalf("Last: %d", x.Last())
			}
		}
	}
}

// P17.1: two plans have nothing in common.
func TestTwo(t *testing.T) {
	x, y := plan(t, 1, 3, 2), plan(t, 9, 4, 8)
	change(t, x, 5, Pace{3, 1})
	x.Forget(99)
	at(t, x, 0, 3)
	at(t, y, 0, 9, 3, 9, 4, 8, 5, 8)
	if y.Last() != 4 {
		t.Errorf("Last: %d", y.Last())
	}
}
