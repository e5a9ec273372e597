package batch

import (
	"math"
	"math/rand"
	"slices"
	"testing"

	"cotillion/api"
	"cotillion/order"
	"cotillion/world"
)

// marked: a batch of so many orders, of which each has that mark.
func marked(mark int64, orders int) order.Batch {
	b := order.Batch{}
	for k := range orders {
		b = append(b, order.Order{Kind: order.Move, Unit: mark + 1, A: int64(k), B: -1})
	}
	return b
}

// wrong: batches that may not be, by why.
func wrong() map[api.Errno]order.Batch {
	return map[api.Errno]order.Batch{
		api.ErrFull: marked(1, 9),
		api.ErrKind: {{Kind: order.Halt, Unit: 1}, {Kind: 5, Unit: 1}},
		api.ErrArg:  {{Kind: order.Halt, Unit: 0}},
	}
}

// whose: a batch unlike those of other players and of other turns.
func whose(player, turn int) order.Batch {
	return marked(int64(100*turn+player)%(1<<39), 2)
}

// put: that is given.
func put(t *testing.T, x *Table, player, turn int, b order.Batch) {
	t.Helper()
	if e := x.Put(player, turn, b); e != api.OK {
		t.Fatalf("Put of %d for %d: %d", player, turn, e)
	}
}

// gives: a player gives for so many turns, from the one on that it gives for next.
func gives(t *testing.T, x *Table, player, turns int) {
	t.Helper()
	for range turns {
		turn := x.Given(player)
		put(t, x, player, turn, whose(player, turn))
	}
}

// given: that is what gives gave for a turn.
func given(t *testing.T, p world.Play, player, turn int) {
	t.Helper()
	if p.Player != player || !slices.Equal(p.Batch, whose(player, turn)) {
		t.Fatalf("of %d, turn %d: %+v", player, turn, p)
	}
}

// refuses: that isn't given, and nothing changes.
func refuses(t *testing.T, x *Table, player, turn int, b order.Batch, want api.Errno) {
	t.Helper()
	was := seen(x)
	if e := x.Put(player, turn, b); e != want {
		t.Errorf("Put of %d for %d: %d, not %d", player, turn, e, want)
	}
	same(t, x, was)
}

// sight is all that can be asked of a table, without a change.
type sight struct {
	next    int
	given   []int
	has     []bool
	players []int
}

func seen(x *Table) sight {
	s := sight{next: x.Next(), players: x.Players()}
	for p := -2; p < 35; p++ {
		s.given = append(s.given, x.Given(p))
		s.has = append(s.has, x.Has(p))
	}
	return s
}

func same(t *testing.T, x *Table, was sight) {
	t.Helper()
	s := seen(x)
	if s.next != was.next || !slices.Equal(s.given, was.given) || !slices.Equal(s.has, was.has) || !slices.Equal(s.players, was.players) {
		t.Fatalf("%+v, not %+v", s, was)
	}
}

// players: just these gave something that is there.
func players(t *testing.T, x *Table, want ...int) {
	t.Helper()
	if l := x.Players(); !slices.Equal(l, want) {
		t.Fatalf("Players: %v, not %v", l, want)
	}
}

// takes: the next turn, of these; what they gave is what gives gave.
func takes(t *testing.T, x *Table, want ...int) []world.Play {
	t.Helper()
	turn := x.Next()
	l, ok := x.Take(want...)
	if !ok || len(l) != len(want) || x.Next() != turn+1 {
		t.Fatalf("Take of %v: %+v, %v, next %d", want, l, ok, x.Next())
	}
	for k, p := range l {
		given(t, p, want[k], turn)
	}
	return l
}

// waits: these aren't all there, and nothing changes.
func waits(t *testing.T, x *Table, l ...int) {
	t.Helper()
	was := seen(x)
	if plays, ok := x.Take(l...); plays != nil || ok {
		t.Fatalf("Take of %v: %+v, %v", l, plays, ok)
	}
	same(t, x, was)
}

// P16.1: the chapter's example.
func TestExample(t *testing.T) {
	x := New(5)
	gives(t, x, 0, 1)
	gives(t, x, 1, 1)
	takes(t, x, 0, 1)
	if x.Next() != 6 {
		t.Errorf("Next: %d", x.Next())
	}
}

// P16.1: New: at the ends of the turns; nothing was given.
func TestNew(t *testing.T) {
	if Ahead != 8 {
		t.Fatalf("Ahead: %d", Ahead)
	}
	for _, next := range []int{0, 1, 7, 8, 1<<32 + 5, api.MaxTurn - 8, api.MaxTurn} {
		x := New(next)
		if x.Next() != next {
			t.Errorf("Next of %d: %d", next, x.Next())
		}
		for p := -1; p < 34; p++ {
			if x.Given(p) != next || x.Has(p) || x.Drop(p) != 0 {
				t.Errorf("%d, player %d: Given %d", next, p, x.Given(p))
			}
		}
		players(t, x)
		refuses(t, x, 3, next-1, nil, api.ErrOld)
		refuses(t, x, 3, next+1, nil, api.ErrOrder)
		gives(t, x, 3, 8)
		refuses(t, x, 3, next+8, nil, api.ErrFull)
		for range 8 {
			takes(t, x, 3)
		}
		if x.Next() != next+8 {
			t.Errorf("Next behind eight: %d", x.Next())
		}
	}
}

// P16.1: Put, of each player, and of numbers that none has.
func TestPutPlayer(t *testing.T) {
	x := New(4)
	for _, p := range []int{math.MinInt, -33, -1, 32, 33, 1 << 32, math.MaxInt} {
		refuses(t, x, p, 4, nil, api.ErrPlayer)
		if x.Has(p) || x.Given(p) != 4 || x.Drop(p) != 0 || !slices.Equal(x.Missing(p), []int{p}) {
			t.Errorf("of %d", p)
		}
		waits(t, x, p)
	}
	var all []int
	for p := range 32 {
		gives(t, x, 31-p, 1)
		all = append(all, p)
	}
	players(t, x, all...)
	takes(t, x, all...)
	players(t, x)
}

// P16.1: Put, at, below and above the turn that a player gives for next.
func TestPutTurn(t *testing.T) {
	x := New(10)
	for n := range 8 {
		turn := 10 + n
		for _, below := range []int{turn - 1, turn - 2, 9, 0, -1, math.MinInt} {
			refuses(t, x, 2, below, nil, api.ErrOld)
		}
		for _, above := range []int{turn + 1, turn + 2, 18, 19, 1 << 40, math.MaxInt} {
			refuses(t, x, 2, above, nil, api.ErrOrder)
		}
		if x.Given(2) != turn || x.Has(2) != (n > 0) {
			t.Fatalf("Given: %d", x.Given(2))
		}
		gives(t, x, 2, 1)
		if x.Given(2) != turn+1 || !x.Has(2) || x.Given(1) != 10 || x.Has(1) || x.Next() != 10 {
			t.Fatalf("Given behind %d: %d", turn, x.Given(2))
		}
	}
}

// P16.1: Put, of turns 7, 8 and 9 behind the next one; there is place as turns are played.
func TestPutAhead(t *testing.T) {
	x := New(100)
	gives(t, x, 0, 7)
	gives(t, x, 31, 8) // 107 is 7 behind
	refuses(t, x, 0, 108, nil, api.ErrOrder)
	refuses(t, x, 31, 108, nil, api.ErrFull) // 8 behind
	refuses(t, x, 31, 109, nil, api.ErrOrder)
	gives(t, x, 0, 1)
	refuses(t, x, 0, 108, nil, api.ErrFull)

	takes(t, x, 0)
	gives(t, x, 31, 1)
	refuses(t, x, 31, 109, nil, api.ErrFull)
	refuses(t, x, 31, 110, nil, api.ErrOrder)
	x.Take()
	x.Take()
	gives(t, x, 31, 2)
	refuses(t, x, 31, 111, nil, api.ErrFull)
	gives(t, x, 0, 3)
	refuses(t, x, 0, 111, nil, api.ErrFull)
	for range 8 {
		takes(t, x, 0, 31)
	}
	players(t, x)
}

// P16.1: Put, of batches that may not be, and of those that just may.
func TestPutBatch(t *testing.T) {
	x := New(0)
	for e, b := range wrong() {
		refuses(t, x, 5, 0, b, e)
	}
	put(t, x, 5, 0, marked(1, 8))
	put(t, x, 5, 1, nil)
	put(t, x, 5, 2, order.Batch{})
	for e, b := range wrong() {
		refuses(t, x, 5, 3, b, e)
	}
	for turn, n := range []int{8, 0, 0} {
		l, ok := x.Take(5)
		if !ok || len(l) != 1 || l[0].Player != 5 || !slices.Equal(l[0].Batch, marked(1, n)) {
			t.Errorf("turn %d: %+v, %v", turn, l, ok)
		}
	}
	waits(t, x, 5)
}

// K2: of several errors the first one is told.
func TestPutFirstError(t *testing.T) {
	x := New(50)
	gives(t, x, 1, 3)
	gives(t, x, 2, 8)
	for _, b := range wrong() {
		for _, p := range []int{-1, 32} {
			for _, turn := range []int{49, 50, 51, 57, 58, 59} {
				refuses(t, x, p, turn, b, api.ErrPlayer)
			}
		}
		refuses(t, x, 1, 52, b, api.ErrOld)
		refuses(t, x, 1, 49, b, api.ErrOld)
		refuses(t, x, 2, 57, b, api.ErrOld)
		refuses(t, x, 1, 54, b, api.ErrOrder)
		refuses(t, x, 1, 58, b, api.ErrOrder) // not ErrFull
		refuses(t, x, 3, 59, b, api.ErrOrder)
		refuses(t, x, 2, 59, b, api.ErrOrder)
		refuses(t, x, 2, 58, b, api.ErrFull)
	}
}

// P16.1: Missing: in the order in which they are handed in.
func TestMissing(t *testing.T) {
	x := New(3)
	gives(t, x, 4, 1)
	gives(t, x, 9, 2)
	for _, c := range []struct{ of, want []int }{
		{nil, nil},
		{[]int{4}, nil},
		{[]int{9, 4}, nil},
		{[]int{0}, []int{0}},
		{[]int{9, 7, 4, 5, 0, 31}, []int{7, 5, 0, 31}},
		{[]int{31, 30, 4, 1}, []int{31, 30, 1}},
		{[]int{32, -1, 9}, []int{32, -1}},
	} {
		if l := x.Missing(c.of...); !slices.Equal(l, c.want) {
			t.Errorf("Missing of %v: %v", c.of, l)
		}
	}
	x.Take(4)
	if l := x.Missing(4, 9); !slices.Equal(l, []int{4}) {
		t.Errorf("Missing, a turn later: %v", l)
	}
}

// P16.1: Take: in the order in which they are handed in.
func TestTakeOrder(t *testing.T) {
	for _, l := range [][]int{{3}, {3, 17, 30}, {30, 3, 17}, {17, 30, 3, 0, 31}} {
		x := New(20)
		for _, p := range []int{0, 3, 17, 30, 31} {
			gives(t, x, p, 2)
		}
		takes(t, x, l...)
		takes(t, x, l...)
		players(t, x)
	}
}

// P16.1: Take, when one didn't give, wherever it stands.
func TestTakeWaits(t *testing.T) {
	x := New(6)
	waits(t, x, 0)
	gives(t, x, 0, 1)
	gives(t, x, 1, 3)
	for _, l := range [][]int{{2}, {2, 0, 1}, {0, 2, 1}, {0, 1, 2}, {2, 3}} {
		waits(t, x, l...)
	}
	gives(t, x, 2, 1)
	takes(t, x, 0, 1, 2)
	waits(t, x, 0, 1)
	takes(t, x, 1)
	takes(t, x, 1)
	waits(t, x, 1)
}

// P16.1: Take of no players: a turn without plays comes, and what was given for it goes.
func TestTakeNone(t *testing.T) {
	x := New(0)
	for n := range 3 {
		l, ok := x.Take()
		if len(l) != 0 || !ok || x.Next() != n+1 {
			t.Fatalf("Take: %+v, %v, next %d", l, ok, x.Next())
		}
	}
	gives(t, x, 7, 2)
	if _, ok := x.Take([]int{}...); !ok {
		t.Fatal("Take")
	}
	players(t, x, 7)
	if l := takes(t, x, 7); len(l) != 1 {
		t.Errorf("%+v", l)
	}
	players(t, x)
}

// P16.1: Take, when others gave: theirs for that turn go, theirs for later ones stay.
func TestTakeOthers(t *testing.T) {
	x := New(8)
	gives(t, x, 1, 1)
	gives(t, x, 2, 1)
	gives(t, x, 3, 4)
	gives(t, x, 4, 8)
	takes(t, x, 1)
	players(t, x, 3, 4)
	if x.Given(2) != 9 || x.Given(3) != 12 || x.Given(4) != 16 || x.Has(2) || !x.Has(3) {
		t.Fatalf("Given: %d, %d, %d", x.Given(2), x.Given(3), x.Given(4))
	}
	refuses(t, x, 2, 8, nil, api.ErrOld)
	takes(t, x, 4)
	takes(t, x, 4, 3)
	takes(t, x, 4)
	players(t, x, 4)
	if x.Given(3) != 12 || x.Next() != 12 {
		t.Fatalf("Given: %d", x.Given(3))
	}
}

// P16.1: who gave nothing for turns that others played gives for the next one.
func TestGaveNothing(t *testing.T) {
	x := New(0)
	gives(t, x, 0, 8)
	for turn := range 5 {
		if x.Given(6) != turn {
			t.Fatalf("Given: %d", x.Given(6))
		}
		takes(t, x, 0)
	}
	refuses(t, x, 6, 0, nil, api.ErrOld)
	refuses(t, x, 6, 4, nil, api.ErrOld)
	refuses(t, x, 6, 6, nil, api.ErrOrder)
	gives(t, x, 6, 1)
	takes(t, x, 0, 6)
	if x.Given(6) != 6 || x.Given(0) != 8 {
		t.Errorf("Given: %d, %d", x.Given(6), x.Given(0))
	}
}

// P16.1: Drop, of one who gave nothing, and for one turn, and for several.
func TestDrop(t *testing.T) {
	for n := range 9 {
		x := New(30)
		gives(t, x, 2, n)
		gives(t, x, 5, 3)
		was := seen(x)
		for _, p := range []int{1, -1, 32} {
			if k := x.Drop(p); k != 0 {
				t.Errorf("Drop of %d: %d", p, k)
			}
		}
		same(t, x, was)
		if k := x.Drop(2); k != n {
			t.Errorf("Drop: %d, not %d", k, n)
		}
		players(t, x, 5)
		if x.Drop(2) != 0 || x.Has(2) || x.Given(2) != 30 || x.Given(5) != 33 || x.Next() != 30 {
			t.Errorf("behind Drop: Given %d, %d", x.Given(2), x.Given(5))
		}
		waits(t, x, 2, 5)
		gives(t, x, 2, 1) // anew, from the next turn on
		takes(t, x, 2, 5)
	}
}

// P16.1: Drop, when turns were played: only what is still there counts.
func TestDropBehind(t *testing.T) {
	x := New(0)
	gives(t, x, 2, 5)
	takes(t, x, 2)
	x.Take()
	if k := x.Drop(2); k != 3 {
		t.Errorf("Drop: %d", k)
	}
	put(t, x, 2, 2, marked(77, 1))
	if l, ok := x.Take(2); !ok || !slices.Equal(l[0].Batch, marked(77, 1)) {
		t.Errorf("Take: %+v", l)
	}
	players(t, x)
}

// P16.1: Players: rising, whoever gave first.
func TestPlayers(t *testing.T) {
	x := New(0)
	for _, p := range []int{9, 31, 0, 17, 4} {
		gives(t, x, p, 2)
	}
	for range 20 { // whatever the order in which a map is gone through
		players(t, x, 0, 4, 9, 17, 31)
	}
	x.Drop(9)
	players(t, x, 0, 4, 17, 31)
	x.Take()
	players(t, x, 0, 4, 17, 31)
	x.Take()
	players(t, x)
}

// P16.2: each turn has the one batch that each gave for it, whatever else was handed in for it.
func TestOne(t *testing.T) {
	x := New(0)
	for turn := range 40 {
		for p := range 3 {
			for x.Given(p) <= turn+(turn+p)%3 { // unlike numbers of turns ahead
				gives(t, x, p, 1)
			}
			for given := turn; given < x.Given(p); given++ {
				refuses(t, x, p, given, marked(999, 1), api.ErrOld)
			}
		}
		takes(t, x, 2, 0, 1)
		for p := range 3 {
			refuses(t, x, p, turn, marked(999, 1), api.ErrOld)
		}
	}
}

// K3: what is handed in is neither changed nor kept.
func TestHandedIn(t *testing.T) {
	x := New(0)
	b, other := marked(7, 3), marked(8, 2)
	put(t, x, 1, 0, b[:2])
	put(t, x, 1, 1, b)
	put(t, x, 2, 0, other)
	b[0].A, b[1].Unit, b[2].Kind, other[0].B = 500, 501, 77, 502
	_ = append(b[:2], order.Order{Kind: 99})
	l := []int{2, 1}
	x.Missing(l...)
	plays, ok := x.Take(l...)
	if !ok || !slices.Equal(l, []int{2, 1}) || !slices.Equal(plays[0].Batch, marked(8, 2)) || !slices.Equal(plays[1].Batch, marked(7, 2)) {
		t.Fatalf("Take: %+v", plays)
	}
	l[0], l[1] = 9, 9
	if plays[0].Player != 2 || plays[1].Player != 1 {
		t.Error("Take keeps its list")
	}
	if plays, ok := x.Take(1); !ok || !slices.Equal(plays[0].Batch, marked(7, 3)) {
		t.Errorf("Take: %+v", plays)
	}
}

// K3: what is answered is the caller's, and no later call changes it.
func TestAnswered(t *testing.T) {
	x := New(0)
	gives(t, x, 1, 8)
	gives(t, x, 2, 8)
	who, miss := x.Players(), x.Missing(5, 1, 6)
	who[0], who[1], miss[0] = 30, 31, 32
	players(t, x, 1, 2)
	if l := x.Missing(5, 1, 6); !slices.Equal(l, []int{5, 6}) {
		t.Errorf("Missing: %v", l)
	}
	a := takes(t, x, 1, 2)
	a[0].Batch[0].A = 900
	_ = append(a[0].Batch, order.Order{Kind: 98})
	if a[1].Batch[0] == a[0].Batch[0] {
		t.Error("two batches share memory")
	}
	given(t, a[1], 2, 0)
	b := takes(t, x, 1, 2) // unaltered by what was done to a
	a[0], a[1] = world.Play{}, world.Play{}
	for range 6 {
		gives(t, x, 1, 1)
		takes(t, x, 1, 2)
	}
	x.Drop(1)
	given(t, b[0], 1, 1)
	given(t, b[1], 2, 1)
}

// P16.1: two tables have nothing in common.
func TestTwo(t *testing.T) {
	x, y := New(0), New(5)
	gives(t, x, 1, 2)
	gives(t, y, 2, 1)
	players(t, x, 1)
	players(t, y, 2)
	takes(t, x, 1)
	if x.Drop(2) != 0 || y.Next() != 5 || y.Given(1) != 5 {
		t.Error("Drop")
	}
	takes(t, y, 2)
}

// --- by chance, against a slow model ---

// model is a table as the chapter tells it: each batch of its own.
type model struct {
	next  int
	given map[of]order.Batch
}

type of struct{ player, turn int }

func (m *model) givesFor(player int) int {
	turn := m.next
	for {
		if _, ok := m.given[of{player, turn}]; !ok {
			return turn
		}
		turn++
	}
}

func (m *model) put(player, turn int, b order.Batch) api.Errno {
	if player < 0 || player > 31 {
		return api.ErrPlayer
	}
	if turn < m.givesFor(player) {
		return api.ErrOld
	}
	if turn > m.givesFor(player) {
		return api.ErrOrder
	}
	if turn >= m.next+8 {
		return api.ErrFull
	}
	if e := b.Check(); e != api.OK {
		return e
	}
	m.given[of{player, turn}] = b
	return api.OK
}

func (m *model) missing(l []int) []int {
	var out []int
	for _, p := range l {
		if _, ok := m.given[of{p, m.next}]; !ok {
			out = append(out, p)
		}
	}
	return out
}

func (m *model) take(l []int) ([]world.Play, bool) {
	if len(m.missing(l)) > 0 {
		return nil, false
	}
	var plays []world.Play
	for _, p := range l {
		plays = append(plays, world.Play{Player: p, Batch: m.given[of{p, m.next}]})
	}
	m.next++
	return plays, true
}

func (m *model) drop(player int) int {
	n := 0
	for turn := m.next; turn < m.next+10; turn++ {
		if _, ok := m.given[of{player, turn}]; ok {
			delete(m.given, of{player, turn})
			n++
		}
	}
	return n
}

func (m *model) seen() sight {
	s := sight{next: m.next}
	for p := -2; p < 35; p++ {
		s.given = append(s.given, m.givesFor(p))
		s.has = append(s.has, m.givesFor(p) > m.next)
		if m.givesFor(p) > m.next {
			s.players = append(s.players, p)
		}
	}
	return s
}

func samePlay(a, b world.Play) bool {
	return a.Player == b.Player && slices.Equal(a.Batch, b.Batch)
}

// some of these, each once, in any order.
func some(r *rand.Rand, l []int) []int {
	l = slices.Clone(l)
	r.Shuffle(len(l), func(a, b int) { l[a], l[b] = l[b], l[a] })
	return l[:r.Intn(len(l)+1)]
}

// P16.1, P16.2: calls by chance.
func TestByChance(t *testing.T) {
	r := rand.New(rand.NewSource(16))
	for range 200 {
		next := r.Intn(20)
		x, m := New(next), &model{next: next, given: map[of]order.Batch{}}
		who := some(r, []int{-1, 0, 1, 2, 3, 15, 30, 31, 32})
		who = append(who, 4)
		for step := range 300 {
			p := who[r.Intn(len(who))]
			switch r.Intn(10) {
			case 0:
				if a, b := x.Drop(p), m.drop(p); a != b {
					t.Fatalf("Drop of %d: %d, not %d", p, a, b)
				}
			case 1, 2:
				l := some(r, who)
				if r.Intn(2) == 0 {
					l = some(r, x.Players())
				}
				if a, b := x.Missing(l...), m.missing(l); !slices.Equal(a, b) {
					t.Fatalf("Missing of %v: %v, not %v", l, a, b)
				}
				a, ok := x.Take(l...)
				if b, is := m.take(l); ok != is || !slices.EqualFunc(a, b, samePlay) {
					t.Fatalf("Take of %v: %+v, not %+v", l, a, b)
				}
			default:
				turn := x.Given(p) + []int{0, 0, 0, 0, 0, 0, -1, 1, -3, 5}[r.Intn(10)]
				b := marked(int64(step), r.Intn(10)*r.Intn(3)/2)
				if e, f := x.Put(p, turn, b), m.put(p, turn, slices.Clone(b)); e != f {
					t.Fatalf("Put of %d for %d: %d, not %d", p, turn, e, f)
				}
				clear(b)
			}
			same(t, x, m.seen())
		}
	}
}
