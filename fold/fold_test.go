package fold

import (
	"fmt"
	"math"
	"math/rand"
	"slices"
	"strings"
	"testing"

	"cotillion/api"
	"cotillion/code"
	"cotillion/order"
	"cotillion/pace"
	"cotillion/record"
	"cotillion/roster"
	"cotillion/unit"
	"cotillion/verify"
	"cotillion/vm"
	"cotillion/wire"
	"cotillion/world"
)

var of = code.Of

// rules: what is built stands there; of what gets any other order the health is one by chance, at 0 of which it goes; each turn a number by chance is kept.
func rules() code.Image {
	turn := code.Make(1, 1,
		of(code.Push, 1000), of(code.Rand), of(code.Load, 0), of(code.Add), of(code.Push, 3), of(code.Put),
		of(code.Push, 0), of(code.Ret))
	each := code.Make(4, 4,
		of(code.Load, 1), of(code.Push, order.Build), of(code.Eq), of(code.Branch, 9),
		of(code.Load, 2), of(code.Load, 3), of(code.Load, 3), of(code.Host, 0), of(code.Ret),
		of(code.Load, 0), of(code.Push, unit.Health), of(code.Push, 4), of(code.Rand), of(code.Host, 3), of(code.Ret))
	return code.Image{Funcs: []code.Func{turn, each}}
}

// otherRules: each turn something of kind 7 stands there; orders do nothing.
func otherRules() code.Image {
	turn := code.Make(1, 1, of(code.Push, 7), of(code.Load, 0), of(code.Push, 0), of(code.Host, 0), of(code.Ret))
	return code.Image{Funcs: []code.Func{turn, code.Make(4, 4, of(code.Load, 0), of(code.Ret))}}
}

// wrongImages may not be run.
func wrongImages() []code.Image {
	good := rules()
	return []code.Image{
		{},
		{Funcs: good.Funcs[:1]},
		{Funcs: []code.Func{good.Funcs[1], good.Funcs[0]}},
		{Funcs: []code.Func{good.Funcs[0], code.Make(4, 4, of(code.Ret))}},
		{Funcs: slices.Repeat(good.Funcs[1:], 17)},
	}
}

// upTo: 0 to n-1.
func upTo(n int) []int {
	l := make([]int, n)
	for k := range l {
		l[k] = k
	}
	return l
}

func game(players ...int) Game {
	return Game{Image: rules(), Seed: 2026, Players: players, Pace: pace.Pace{Ticks: 3, Delay: 2}}
}

func start(t *testing.T, g Game) *State {
	t.Helper()
	s, e := New(g)
	if e != api.OK {
		t.Fatalf("New of %v, %v: %d", g.Players, g.Pace, e)
	}
	return s
}

// bare: plays of these players, without orders.
func bare(players ...int) []world.Play {
	var l []world.Play
	for _, p := range players {
		l = append(l, world.Play{Player: p})
	}
	return l
}

func join(p int) roster.Change {
	return roster.Change{Kind: roster.Join, Player: p}
}

func leave(p int) roster.Change {
	return roster.Change{Kind: roster.Leave, Player: p}
}

func drop(p int, voters ...int) roster.Change {
	return roster.Change{Kind: roster.Drop, Player: p, Voters: voters}
}

// build: one of that kind, at 5, 5.
func build(kind int64) order.Batch {
	return order.Batch{{Kind: order.Build, A: kind, B: 5}}
}

// next: a record that a state may apply, with these changes, of plays without orders.
func next(s *State, changes ...roster.Change) record.Record {
	r := record.Record{Turn: s.Turn(), Changes: changes}
	who, _ := r.Roster(s.Roster())
	r.Plays = bare(who.All()...)
	return r
}

// look: all that can be seen of a state.
func look(s *State) string {
	var ends []int
	for trap := vm.Done; trap <= vm.Bad; trap++ {
		ends = append(ends, s.Ends(trap))
	}
	return fmt.Sprintf("%v, epoch %d, %v, turn %d, %d refused, ends %v, %+v, %x, %x",
		s.Roster().All(), s.Roster().Epoch(), s.Pace(), s.Turn(), s.Refused(), ends, s.World.All(), s.Hash(), s.Snapshot())
}

// applies: that is Apply's answer; beside an error nothing has changed; the record is as it was.
func applies(t *testing.T, s *State, r record.Record, want api.Errno) {
	t.Helper()
	was, text, turn := look(s), fmt.Sprintf("%+v", r), s.Turn()
	if e := s.Apply(r); e != want {
		t.Fatalf("Apply of %s: %d, not %d", text, e, want)
	}
	if want != api.OK && look(s) != was {
		t.Errorf("beside error %d of %s: %s was %s", want, text, look(s), was)
	}
	if want == api.OK && s.Turn() != turn+1 {
		t.Errorf("behind %s: turn %d", text, s.Turn())
	}
	if fmt.Sprintf("%+v", r) != text {
		t.Errorf("%+v was %s", r, text)
	}
}

// stands: who plays, behind how many changes, at which pace, in which turn.
func stands(t *testing.T, s *State, turn, epoch int, p pace.Pace, players ...int) {
	t.Helper()
	if s.Turn() != turn || s.Roster().Epoch() != epoch || s.Pace() != p || !slices.Equal(s.Roster().All(), players) {
		t.Errorf("turn %d, epoch %d, %v, %v, not %d, %d, %v, %v", s.Turn(), s.Roster().Epoch(), s.Pace(), s.Roster().All(), turn, epoch, p, players)
	}
}

// P22.1: the chapter's example.
func TestExample(t *testing.T) {
	s := start(t, game(0, 1))
	applies(t, s, record.Record{Plays: bare(0, 1)}, api.OK)
	applies(t, s, record.Record{Plays: bare(0, 1)}, api.ErrOrder)
}

// --- a new one ---

// P22.1: New: behind no records, with the game's players, in whichever order they stand, its pace, and the world of its image and seed.
func TestNew(t *testing.T) {
	for _, players := range [][]int{{0}, {0, 1}, {1, 0}, {0, 31}, {31, 7, 0, 8}, upTo(31), upTo(32)} {
		for _, p := range []pace.Pace{{Ticks: 1, Delay: 1}, {Ticks: 64, Delay: 6}, {Ticks: 64, Delay: 1}, {Ticks: 1, Delay: 6}} {
			for _, seed := range []uint64{0, 1, 1<<40 + 1, math.MaxUint64} {
				g := Game{Image: rules(), Seed: seed, Players: slices.Clone(players), Pace: p}
				s := start(t, g)
				stands(t, s, 0, 0, p, slices.Sorted(slices.Values(players))...)
				w, _ := world.New(rules(), seed)
				if s.Text() != w.Text() || s.Hash() != w.Hash() || s.Len() != 0 || s.Refused() != 0 {
					t.Errorf("%+v: %s", g, look(s))
				}
				if !slices.Equal(g.Players, players) {
					t.Errorf("%v were %v", g.Players, players)
				}
			}
		}
	}
}

// news: New's error, and nil beside it.
func news(t *testing.T, g Game, want api.Errno) {
	t.Helper()
	if s, e := New(g); e != want || (s == nil) != (want != api.OK) {
		t.Errorf("New of %v, %v, %d functions: %v, %d, not %d", g.Players, g.Pace, len(g.Image.Funcs), s, e, want)
	}
}

// P22.1: images that may not be run.
func TestNewImages(t *testing.T) {
	for _, m := range wrongImages() {
		g := game(0, 1)
		g.Image = m
		news(t, g, api.ErrCode)
	}
}

// odd: numbers around the bounds of a pace.
func odd(most int) []int {
	return []int{math.MinInt, -1, 0, 1, 2, most - 1, most, most + 1, 1<<32 + 1, math.MaxInt}
}

// P22.1: paces: also zero is none.
func TestNewPaces(t *testing.T) {
	for _, ticks := range odd(64) {
		for _, delay := range odd(6) {
			want := api.ErrArg
			if 1 <= ticks && ticks <= 64 && 1 <= delay && delay <= 6 {
				want = api.OK
			}
			g := game(0, 1)
			g.Pace = pace.Pace{Ticks: ticks, Delay: delay}
			news(t, g, want)
		}
	}
}

// P22.1: players: 0 to 31, the Host among them, each one once.
func TestNewPlayers(t *testing.T) {
	for _, l := range [][]int{{0}, {0, 31}, {31, 0}, {5, 0, 30}, upTo(32)} {
		news(t, game(l...), api.OK)
	}
	for _, l := range [][]int{
		nil, {}, {1}, {31}, {1, 2, 31}, upTo(32)[1:], // no Host
		{-1}, {32}, {0, -1}, {-1, 0}, {0, 32}, {32, 0}, {0, 1, 33}, {0, 64}, {0, 1<<32 + 1}, {math.MinInt, 0}, {0, math.MaxInt}, {1 << 32}, upTo(33),
		{0, 0}, {0, 5, 5}, {5, 0, 5}, {1, 1}, append(upTo(32), 31), append(upTo(32), 0), make([]int, 32), make([]int, 1000),
	} {
		news(t, game(l...), api.ErrPlayer)
	}
}

// P22.1: of several errors the image's is told, then the pace's, then the players'.
func TestNewFirstError(t *testing.T) {
	faults := []struct {
		bend func(g *Game)
		want api.Errno
	}{
		{func(g *Game) { g.Image.Funcs = g.Image.Funcs[:1] }, api.ErrCode},
		{func(g *Game) { g.Pace.Delay = 7 }, api.ErrArg},
		{func(g *Game) { g.Players = append(g.Players, 1) }, api.ErrPlayer},
	}
	for mask := range 1 << len(faults) {
		g, want := game(0, 1), api.OK
		for k, f := range faults {
			if mask>>k&1 == 0 {
				continue
			}
			f.bend(&g)
			if want == api.OK {
				want = f.want
			}
		}
		news(t, g, want)
	}
}

// --- a record ---

// midway: a state behind three records: 0, 1 and 2 play, what 0 and 2 built stands there.
func midway(t *testing.T) *State {
	t.Helper()
	s := start(t, game(0, 1, 5))
	l := []record.Record{
		{Turn: 0, Plays: []world.Play{{Player: 0, Batch: build(8)}, {Player: 1}, {Player: 5}}},
		{Turn: 1, Changes: []roster.Change{leave(5), join(2)}, Plays: []world.Play{{Player: 0}, {Player: 1}, {Player: 2, Batch: build(9)}}},
		{Turn: 2, Pace: pace.Pace{Ticks: 7, Delay: 5}, Plays: bare(0, 1, 2)},
	}
	if n, e := s.All(l...); n != 3 || e != api.OK {
		t.Fatalf("All: %d, %d", n, e)
	}
	return s
}

// rich: a record that midway may apply: one of each thing that a record says.
func rich() record.Record {
	return record.Record{
		Turn:    3,
		Changes: []roster.Change{join(4), drop(1, 0, 2, 4), leave(2), join(31)},
		Pace:    pace.Pace{Ticks: 64, Delay: 6},
		Plays: []world.Play{
			{Player: 0, Batch: append(build(3), order.Order{Kind: order.Move, Unit: 1, A: 2, B: 2}, order.Order{Kind: order.Hit, Unit: 1, A: 2})},
			{Player: 4},
			{Player: 31, Batch: append(build(6), order.Order{Kind: order.Halt, Unit: 1})},
		},
	}
}

// P22.1: Apply of a record with all that a record may say.
func TestApply(t *testing.T) {
	s := midway(t)
	stands(t, s, 3, 2, pace.Pace{Ticks: 7, Delay: 5}, 0, 1, 2)
	if s.Len() != 2 {
		t.Errorf("%+v", s.World.All())
	}
	w, _ := world.Restore(rules(), s.Text())
	applies(t, s, rich(), api.OK)
	stands(t, s, 4, 6, pace.Pace{Ticks: 64, Delay: 6}, 0, 4, 31)
	w.Play(rich().Plays...)
	if s.Text() != w.Text() || s.Refused() != 1 { // a Halt of what is another one's
		t.Errorf("%s, not %x", look(s), w.Text())
	}
}

// P22.1: the world's calls, and its table's, are the state's own; All is that of records.
func TestLookedAt(t *testing.T) {
	s := midway(t)
	u, ok := s.Unit(2)
	if !ok || u.Fields != [5]int64{9, 2, 5, 5, 1000} || s.Nth(0) != 1 || s.Nth(2) != 0 || s.Next() != 3 || s.Len() != 2 {
		t.Errorf("%+v, %v: %s", u, ok, look(s))
	}
	if s.Turn() != 3 || s.Ends(vm.Done) != 5 || s.Ends(vm.Bad) != 0 || s.Refused() != 0 || s.Text() != s.World.Text() || s.Hash() != s.World.Hash() {
		t.Error(look(s))
	}
}

// P22.1: who comes plays at once, and in the turns behind; who goes doesn't.
func TestChanges(t *testing.T) {
	s, p := start(t, game(0, 1, 2)), game().Pace
	applies(t, s, next(s), api.OK)
	stands(t, s, 1, 0, p, 0, 1, 2)
	for _, step := range []struct {
		changes      []roster.Change
		ahead, wrong []int // who would have played without these changes, and who plays in none
		epoch        int
		who          []int
	}{
		{[]roster.Change{join(7)}, []int{0, 1, 2}, []int{0, 1, 7}, 1, []int{0, 1, 2, 7}},
		{[]roster.Change{leave(1)}, []int{0, 1, 2, 7}, []int{0, 2}, 2, []int{0, 2, 7}},
		{[]roster.Change{drop(7, 0, 2)}, []int{0, 2, 7}, []int{0}, 3, []int{0, 2}},
		{[]roster.Change{leave(2), join(2)}, nil, []int{0}, 5, []int{0, 2}},
		{[]roster.Change{leave(2)}, []int{0, 2}, nil, 6, []int{0}},
		{[]roster.Change{join(31), join(1), drop(31, 0, 1)}, []int{0}, []int{0, 1, 31}, 9, []int{0, 1}},
	} {
		r := next(s, step.changes...)
		for _, l := range [][]int{step.ahead, step.wrong} {
			if l != nil {
				x := r
				x.Plays = bare(l...)
				applies(t, s, x, api.ErrPlayer)
			}
		}
		turn := s.Turn()
		applies(t, s, r, api.OK)
		stands(t, s, turn+1, step.epoch, p, step.who...)
		applies(t, s, r, api.ErrOrder)
		applies(t, s, record.Record{Turn: turn + 1, Plays: bare(append(step.who, 32)...)}, api.ErrPlayer)
		applies(t, s, next(s), api.OK) // nothing changes
		stands(t, s, turn+2, step.epoch, p, step.who...)
	}
}

// P22.1: eight changes may be, nine may not.
func TestMostChanges(t *testing.T) {
	for n := range 10 {
		s := start(t, game(0))
		var l []roster.Change
		for k := range n {
			l = append(l, join(1+k))
		}
		r := record.Record{Changes: l, Plays: bare(upTo(n + 1)...)}
		if n < 9 {
			applies(t, s, r, api.OK)
			stands(t, s, 1, n, game().Pace, upTo(n+1)...)
		} else {
			applies(t, s, r, api.ErrFull)
			stands(t, s, 0, 0, game().Pace, 0)
		}
	}
}

// P22.1: a pace that is zero says nothing; one that may be is that of the turns behind; others are ErrArg.
func TestPaces(t *testing.T) {
	for _, ticks := range odd(64) {
		for _, delay := range odd(6) {
			s := start(t, game(0, 1))
			was, p := s.Pace(), pace.Pace{Ticks: ticks, Delay: delay}
			r := next(s)
			r.Pace = p
			switch {
			case ticks == 0 && delay == 0:
				applies(t, s, r, api.OK)
				stands(t, s, 1, 0, was, 0, 1)
			case 1 <= ticks && ticks <= 64 && 1 <= delay && delay <= 6:
				applies(t, s, r, api.OK)
				stands(t, s, 1, 0, p, 0, 1)
				applies(t, s, next(s), api.OK)
				stands(t, s, 2, 0, p, 0, 1)
			default:
				applies(t, s, r, api.ErrArg)
				stands(t, s, 0, 0, was, 0, 1)
			}
		}
	}
}

// P22.1: another turn than the one that comes next.
func TestTurns(t *testing.T) {
	s := midway(t)
	for _, turn := range []int{math.MinInt, -4, -1, 0, 2, 4, 5, 3 + 1<<32, 1 << 40, math.MaxInt} {
		r := rich()
		r.Turn = turn
		applies(t, s, r, api.ErrOrder)
	}
	applies(t, s, rich(), api.OK)
}

// P22.1, P22.4: plays that aren't just those of all who play, rising.
func TestPlayers(t *testing.T) {
	s := midway(t)
	for _, l := range [][]int{
		{}, {1, 2}, {0, 2}, {0, 1}, // one is missing
		{0, 1, 2, 3}, {0, 1, 3}, {-1, 0, 1, 2}, {0, 1, 2, 5}, {0, 1, 34}, {0, 1, 2, 32}, // one doesn't play
		{0, 0, 1, 2}, {0, 1, 1}, {0, 1, 2, 2}, {0, 1, 1, 2}, // one is told twice
		{1, 0, 2}, {0, 2, 1}, {2, 1, 0}, // they don't rise
	} {
		r := next(s)
		r.Plays = bare(l...)
		applies(t, s, r, api.ErrPlayer)
	}
	applies(t, s, next(s), api.OK)
}

// P22.1, P22.4: a change that may not be, wherever it stands beside those that may.
func TestWrongChanges(t *testing.T) {
	s := midway(t)
	right := []roster.Change{join(4), drop(4, 0, 1, 2), join(6), leave(6)}
	for want, c := range map[api.Errno]roster.Change{
		api.ErrKind:   {Kind: 4, Player: 1},
		api.ErrArg:    leave(roster.Host),
		api.ErrThere:  join(1),
		api.ErrPlayer: leave(20),
		api.ErrStall:  drop(2, 0),
	} {
		for at := range len(right) + 1 {
			r := next(s, slices.Insert(slices.Clone(right), at, c)...)
			applies(t, s, r, want)
		}
	}
	applies(t, s, next(s, right...), api.OK)
	stands(t, s, 4, 6, pace.Pace{Ticks: 7, Delay: 5}, 0, 1, 2)
}

// P22.1, P22.4: a batch that may not be, at each of the plays: those ahead of it aren't played either.
func TestWrongBatches(t *testing.T) {
	s := midway(t)
	for want, b := range map[api.Errno]order.Batch{
		api.ErrFull: slices.Repeat(build(1), 9),
		api.ErrKind: append(build(1), order.Order{Kind: 5, Unit: 1}),
		api.ErrArg:  append(build(1), order.Order{Kind: order.Move}),
	} {
		for at := range rich().Plays {
			r := rich()
			r.Plays[at].Batch = b
			applies(t, s, r, want)
		}
	}
	applies(t, s, rich(), api.OK)
}

// faults: of a record, in the order in which they are told.
func faults() []func(r *record.Record) api.Errno {
	return []func(r *record.Record) api.Errno{
		func(r *record.Record) api.Errno { r.Turn++; return api.ErrOrder },
		func(r *record.Record) api.Errno { r.Pace.Ticks = 65; return api.ErrArg },
		func(r *record.Record) api.Errno {
			r.Changes = append(r.Changes, make([]roster.Change, 5)...)
			return api.ErrFull
		},
		func(r *record.Record) api.Errno { r.Changes[1].Voters = []int{0, 4}; return api.ErrStall },
		func(r *record.Record) api.Errno { r.Changes[3] = join(4); return api.ErrThere },
		func(r *record.Record) api.Errno { r.Plays[1].Player = 5; return api.ErrPlayer },
		func(r *record.Record) api.Errno { r.Plays[2].Batch[0].A = 256; return api.ErrArg },
	}
}

// P22.1, P22.4: of all faults that there may be together the first one is told.
func TestFirstError(t *testing.T) {
	s := midway(t)
	for mask := 1; mask < 1<<len(faults()); mask++ {
		r, want := rich(), api.OK
		for k, bend := range faults() {
			if mask>>k&1 == 0 {
				continue
			}
			if e := bend(&r); want == api.OK {
				want = e
			}
		}
		applies(t, s, r, want)
	}
	applies(t, s, rich(), api.OK)
	fresh := midway(t)
	applies(t, fresh, rich(), api.OK)
	if look(s) != look(fresh) {
		t.Errorf("behind errors: %s, not %s", look(s), look(fresh))
	}
}

// P22.1: 32 players, each with eight orders.
func TestAllPlay(t *testing.T) {
	s := start(t, game(upTo(32)...))
	w, _ := world.New(rules(), game().Seed)
	for range 3 {
		r := next(s)
		for k := range r.Plays {
			r.Plays[k].Batch = slices.Repeat(build(int64(k)), 8)
		}
		applies(t, s, r, api.OK)
		w.Play(r.Plays...)
		stands(t, s, w.Turn(), 0, game().Pace, upTo(32)...)
		if s.Text() != w.Text() || s.Len() != 64 {
			t.Error(look(s))
		}
	}
	applies(t, s, next(s, join(31)), api.ErrThere)
}

// --- records ---

// alls: All's answer.
func alls(t *testing.T, s *State, l []record.Record, n int, want api.Errno) {
	t.Helper()
	text := fmt.Sprintf("%+v", l)
	if k, e := s.All(l...); k != n || e != want {
		t.Errorf("All: %d, %d, not %d, %d", k, e, n, want)
	}
	if fmt.Sprintf("%+v", l) != text {
		t.Errorf("%+v were %s", l, text)
	}
}

// row: so many records, which a new state of a game may apply; who plays and the pace change on the way.
func row(t *testing.T, n int) []record.Record {
	t.Helper()
	s := start(t, game(0, 1, 2))
	var l []record.Record
	for k := range n {
		var changes []roster.Change
		if k%3 == 1 {
			changes = []roster.Change{join(3 + k)}
		}
		r := next(s, changes...)
		if k%2 == 1 {
			r.Pace = pace.Pace{Ticks: 1 + k%64, Delay: 1 + k%6}
		}
		r.Plays[k%len(r.Plays)].Batch = build(int64(k))
		applies(t, s, r, api.OK)
		l = append(l, r)
	}
	return l
}

// P22.1: All of no records.
func TestAllOfNone(t *testing.T) {
	for _, s := range []*State{start(t, game(0, 1)), midway(t)} {
		was := look(s)
		alls(t, s, nil, 0, api.OK)
		alls(t, s, []record.Record{}, 0, api.OK)
		if n, e := s.All(); n != 0 || e != api.OK || look(s) != was {
			t.Errorf("%d, %d: %s was %s", n, e, look(s), was)
		}
	}
}

// P22.1, P22.4: one of the records may not be: those ahead of it are applied, neither it nor any behind it is.
func TestAllWithWrong(t *testing.T) {
	l := row(t, 8)
	for at := range len(l) + 1 {
		ahead := start(t, game(0, 1, 2))
		alls(t, ahead, l[:at], at, api.OK)
		old, late := record.Record{Turn: at - 1}, record.Record{Turn: at + 1}
		full := record.Record{Turn: at, Changes: make([]roster.Change, 9)}
		pacing := record.Record{Turn: at, Pace: pace.Pace{Ticks: 65, Delay: 1}}
		nobody := record.Record{Turn: at}
		for want, wrong := range map[api.Errno][]record.Record{
			api.ErrOrder: {old, late}, api.ErrFull: {full}, api.ErrArg: {pacing, old}, api.ErrPlayer: {nobody, full},
		} {
			s := start(t, game(0, 1, 2))
			alls(t, s, slices.Concat(l[:at], wrong, l[at:]), at, want)
			if look(s) != look(ahead) {
				t.Errorf("behind error %d of record %d: %s, not %s", want, at, look(s), look(ahead))
			}
			alls(t, s, l[at:], len(l)-at, api.OK)
			alls(t, s, l, 0, api.ErrOrder)
		}
	}
}

// P22.2: SAME: all at once, one by one, and in any two or three parts: the same snapshot.
func TestParts(t *testing.T) {
	l := row(t, 9)
	whole, single := start(t, game(0, 1, 2)), start(t, game(2, 0, 1))
	alls(t, whole, l, len(l), api.OK)
	for _, r := range l {
		applies(t, single, r, api.OK)
	}
	if look(whole) != look(single) {
		t.Errorf("one by one: %s, not %s", look(single), look(whole))
	}
	for i := range len(l) + 1 {
		for j := i; j <= len(l); j++ {
			s := start(t, game(0, 1, 2))
			alls(t, s, l[:i], i, api.OK)
			alls(t, s, l[i:j], j-i, api.OK)
			alls(t, s, l[j:], len(l)-j, api.OK)
			if s.Snapshot() != whole.Snapshot() {
				t.Errorf("in parts, at %d and %d: %s, not %s", i, j, look(s), look(whole))
			}
		}
	}
}

// --- a snapshot ---

// nums: numbers as bytes.
func nums(l ...uint64) string {
	return new(wire.Out).Num(l...).Text()
}

// shot: a snapshot's bytes, as the chapter's words say them.
func shot(plays, epoch, ticks, delay uint64, text string) string {
	return nums(plays, epoch, ticks, delay, uint64(len(text))) + text
}

// worldText: a world's, of seed 5: behind so many turns, without cells and units, with one order that was refused.
func worldText(turns uint64) string {
	return nums(turns, 5, 0, 1, 0, 1, turns, 0, 0, 0, 0, 0)
}

// P22.1: known bytes.
func TestSnapshot(t *testing.T) {
	g := game(0, 1)
	g.Seed = 5
	s := start(t, g)
	if want := "\x03\x00\x03\x02\x0c\x00\x05\x00\x01\x00\x00\x00\x00\x00\x00\x00\x00"; s.Snapshot() != want {
		t.Errorf("%x, not %x", s.Snapshot(), want)
	}
	g.Players, g.Pace = upTo(32), pace.Pace{Ticks: 64, Delay: 6}
	if want := "\xff\xff\xff\xff\x0f\x00\x40\x06\x0c\x00\x05\x00\x01\x00\x00\x00\x00\x00\x00\x00\x00"; start(t, g).Snapshot() != want {
		t.Errorf("%x, not %x", start(t, g).Snapshot(), want)
	}
	for _, s := range []*State{s, midway(t)} {
		sum := uint64(0)
		for _, p := range s.Roster().All() {
			sum += 1 << p
		}
		if want := shot(sum, uint64(s.Roster().Epoch()), uint64(s.Pace().Ticks), uint64(s.Pace().Delay), s.Text()); s.Snapshot() != want || s.Snapshot() != want {
			t.Errorf("%x, not %x", s.Snapshot(), want)
		}
	}
}

// restores: Restore's error, nil beside it; else a state with just these bytes.
func restores(t *testing.T, m code.Image, text string, want api.Errno) *State {
	t.Helper()
	s, e := Restore(m, text)
	if e != want || (s == nil) != (want != api.OK) {
		t.Fatalf("Restore of %.200x: %v, %d, not %d", text, s, e, want)
	}
	if s != nil && s.Snapshot() != text {
		t.Errorf("Restore of %.200x: %.200x", text, s.Snapshot())
	}
	return s
}

// P22.1: each number at its ends, and what is restored tells it. The Host need not play, nor anyone.
func TestRestore(t *testing.T) {
	for plays, players := range map[uint64][]int{0: nil, 1: {0}, 2: {1}, 1<<31 + 6: {1, 2, 31}, 1<<32 - 1: upTo(32)} {
		for _, epoch := range []int{0, 1, 300, 1 << 40} {
			for _, p := range []pace.Pace{{Ticks: 1, Delay: 1}, {Ticks: 64, Delay: 6}} {
				for _, turns := range []uint64{0, 1, 300, 1<<40 - 2} {
					s := restores(t, rules(), shot(plays, uint64(epoch), uint64(p.Ticks), uint64(p.Delay), worldText(turns)), api.OK)
					stands(t, s, int(turns), epoch, p, players...)
					if s.Text() != worldText(turns) || s.Refused() != 1 {
						t.Error(look(s))
					}
					applies(t, s, next(s), api.OK)
					stands(t, s, int(turns)+1, epoch, p, players...)
				}
			}
		}
	}
}

// P22.1: bytes that are cut at every place, and bytes behind them.
func TestCut(t *testing.T) {
	states := []*State{start(t, game(0)), start(t, game(upTo(32)...)), midway(t)}
	for _, s := range states {
		text := s.Snapshot()
		restores(t, rules(), text, api.OK)
		for n := range len(text) {
			restores(t, rules(), text[:n], api.ErrEnd)
		}
		for _, behind := range []string{"\x00", "\x80", "\x80\x00", "\xff\xff", text, strings.Repeat("x", 1<<17)} {
			restores(t, rules(), text+behind, api.ErrForm)
		}
	}
}

// P22.1: numbers beyond their bounds, or spelled too long: told ahead of whatever stands, or doesn't, behind them.
func TestWrongNumbers(t *testing.T) {
	text := worldText(1)
	right := []string{nums(1<<32 - 1), nums(1 << 40), nums(64), nums(6), nums(uint64(len(text)))}
	most := []uint64{1<<32 - 1, 1 << 40, 64, 6, 1 << 16}
	restores(t, rules(), strings.Join(right, "")+text, api.OK)
	for k, s := range right {
		front := strings.Join(right[:k], "")
		for _, tail := range []string{strings.Join(right[k+1:], "") + text, "", "\x80\x00", "\xff", nums(math.MaxUint64)} {
			restores(t, rules(), front+nums(most[k]+1)+tail, api.ErrBig)
			restores(t, rules(), front+nums(most[k]+1<<41)+tail, api.ErrBig)
			restores(t, rules(), front+nums(math.MaxUint64)+tail, api.ErrBig)
			n := len(s) - 1
			restores(t, rules(), front+s[:n]+string([]byte{s[n] | 128, 0})+tail, api.ErrForm)
			restores(t, rules(), front+strings.Repeat("\xff", 9)+"\x02"+tail, api.ErrForm)
		}
	}
}

// P22.1: a pace that is zero, or half of it is, is none.
func TestRestorePaces(t *testing.T) {
	for ticks := range uint64(66) {
		for delay := range uint64(8) {
			want := api.OK
			switch {
			case ticks > 64, delay > 6:
				want = api.ErrBig
			case ticks < 1, delay < 1:
				want = api.ErrArg
			}
			restores(t, rules(), shot(3, 0, ticks, delay, worldText(0)), want)
		}
	}
}

// unordered: a world's text up to a unit of number 1, which isn't below the next one: ErrOrder, whatever is behind.
func unordered() string {
	return nums(1, 2, 0, 1, 1, 1, 0, 0, 0, 0, 2)
}

// P22.1: a text of 2^16 bytes may stand there, though no world has as many; one more may not.
func TestLongTexts(t *testing.T) {
	for _, n := range []int{1<<16 - 1, 1 << 16, 1<<16 + 1, 1 << 17} {
		text := unordered() + strings.Repeat("\x00", n-len(unordered()))
		want := api.ErrOrder
		if n > 1<<16 {
			want = api.ErrBig
		}
		restores(t, rules(), shot(3, 0, 3, 2, text), want)
	}
}

// P22.1: a world's text that is cut, bent, or too long: layer 10's error.
func TestWorldTexts(t *testing.T) {
	s := midway(t)
	text := s.Text()
	bent := func(text string, want api.Errno) { t.Helper(); restores(t, rules(), shot(3, 0, 3, 2, text), want) }
	bent(text, api.OK)
	for n := range len(text) {
		bent(text[:n], api.ErrEnd)
	}
	bent(text+"\x00", api.ErrForm)
	bent("\x80\x00"+text[1:], api.ErrForm)
	bent(nums(1<<40+1)+text[1:], api.ErrBig)
	bent(nums(1, 2, 0, 0, 0), api.ErrArg)
	bent(unordered(), api.ErrOrder)
	told := map[api.Errno]int{}
	for k := range len(text) {
		for x := range 256 {
			b := []byte(text)
			b[k] = byte(x)
			_, want := world.Restore(rules(), string(b))
			bent(string(b), want)
			told[want]++
		}
	}
	if len(told) < 6 {
		t.Errorf("these errors were told: %v", told)
	}
}

// P22.1: an image that may not be run.
func TestRestoreImages(t *testing.T) {
	for _, m := range wrongImages() {
		restores(t, m, midway(t).Snapshot(), api.ErrCode)
		restores(t, m, shot(3, 0, 3, 2, "\x80\x00"), api.ErrCode)
		restores(t, m, shot(3, 0, 0, 2, worldText(1)), api.ErrArg)
		restores(t, m, "", api.ErrEnd)
	}
}

// P22.1: a snapshot doesn't say of which image it is: with another one it goes on as that one says.
func TestOtherImage(t *testing.T) {
	s := midway(t)
	u := restores(t, otherRules(), s.Snapshot(), api.OK)
	w, _ := world.Restore(otherRules(), s.Text())
	for range 3 {
		r := next(u)
		r.Plays[0].Batch = build(1)
		applies(t, u, r, api.OK)
		applies(t, s, r, api.OK)
		w.Play(r.Plays...)
		if u.Text() != w.Text() || u.Text() == s.Text() {
			t.Errorf("%s; %s", look(u), look(s))
		}
	}
	if c := u.Clone(); look(c) != look(u) || c.Apply(next(c)) != api.OK || u.Apply(next(u)) != api.OK || look(c) != look(u) {
		t.Errorf("%s, not %s", look(c), look(u))
	}
}

// parts of a snapshot, and the image with which it is restored.
type parts struct {
	plays, epoch, ticks, delay, count, text, behind string
	image                                           code.Image
}

// P22.1: of all faults that there may be together the first one is told: those of the bytes, something left, the pace, the image, the world.
func TestRestoreFirstError(t *testing.T) {
	faults := []struct {
		bend func(p *parts)
		want api.Errno
	}{
		{func(p *parts) { p.plays = nums(1 << 32) }, api.ErrBig},
		{func(p *parts) { p.epoch = "\x81\x00" }, api.ErrForm},
		{func(p *parts) { p.ticks = nums(65) }, api.ErrBig},
		{func(p *parts) { p.delay = "\x82\x00" }, api.ErrForm},
		{func(p *parts) { p.count = nums(1<<16 + 1) }, api.ErrBig},
		{func(p *parts) { p.behind = "\x80" }, api.ErrForm},
		{func(p *parts) { p.ticks = nums(0) }, api.ErrArg},
		{func(p *parts) { p.image = wrongImages()[3] }, api.ErrCode},
		{func(p *parts) { p.text = unordered() }, api.ErrOrder},
	}
	for mask := range 1 << len(faults) {
		p, want := parts{plays: nums(3), epoch: nums(1), ticks: nums(3), delay: nums(2), text: worldText(1), image: rules()}, api.OK
		for k, f := range slices.Backward(faults) { // the first one last, so that it stands where two bend the same
			if mask>>k&1 == 1 {
				f.bend(&p)
				want = f.want
			}
		}
		if p.count == "" {
			p.count = nums(uint64(len(p.text)))
		}
		s, e := Restore(p.image, p.plays+p.epoch+p.ticks+p.delay+p.count+p.text+p.behind)
		if e != want || (s == nil) != (want != api.OK) {
			t.Errorf("%09b: %v, %d, not %d", mask, s, e, want)
		}
	}
}

// --- by chance ---

// anyOrder: one that may be; often of a unit that is there.
func anyOrder(by *rand.Rand) order.Order {
	id, place := int64(1+by.Intn(16)), int64(by.Intn(2001)-1000)
	switch by.Intn(5) {
	case 0:
		return order.Order{Kind: order.Move, Unit: id, A: place, B: -place}
	case 1:
		return order.Order{Kind: order.Hit, Unit: id, A: int64(1 + by.Intn(16))}
	case 2:
		return order.Order{Kind: order.Halt, Unit: id}
	}
	return order.Order{Kind: order.Build, A: int64(by.Intn(256)), B: place}
}

// anyChanges: some that may be, one behind the other.
func anyChanges(by *rand.Rand, who roster.Roster) []roster.Change {
	var l []roster.Change
	for range by.Intn(10) - 4 {
		c := roster.Change{Kind: 1 + by.Intn(3), Player: by.Intn(8)}
		if c.Kind == roster.Drop {
			c.Voters = slices.DeleteFunc(who.All(), func(p int) bool { return p == c.Player || by.Intn(5) == 0 })
		}
		if behind, e := who.With(c); e == api.OK {
			l, who = append(l, c), behind
		}
	}
	return l
}

// anyRecord: one that a state may apply.
func anyRecord(by *rand.Rand, s *State) record.Record {
	r := next(s, anyChanges(by, s.Roster())...)
	if by.Intn(4) == 0 {
		r.Pace = pace.Pace{Ticks: 1 + by.Intn(64), Delay: 1 + by.Intn(6)}
	}
	for k := range r.Plays {
		for range by.Intn(4) {
			r.Plays[k].Batch = append(r.Plays[k].Batch, anyOrder(by))
		}
	}
	return r
}

// bend: one thing of a record is another one; often it may not be then.
func bend(by *rand.Rand, r record.Record) record.Record {
	some := func(n int) int { return by.Intn(n+3) - 1 }
	r.Changes, r.Plays = slices.Clone(r.Changes), slices.Clone(r.Plays)
	switch by.Intn(7) {
	case 0:
		r.Turn += by.Intn(3) - 1
	case 1:
		r.Pace = pace.Pace{Ticks: some(64), Delay: some(6)}
	case 2:
		c := roster.Change{Kind: some(3), Player: some(8)}
		r.Changes = slices.Insert(r.Changes, by.Intn(len(r.Changes)+1), c)
	case 3:
		r.Plays = slices.Insert(r.Plays, by.Intn(len(r.Plays)+1), world.Play{Player: some(31)})
	case 4:
		r.Plays = r.Plays[:len(r.Plays)-1]
	case 5:
		k := by.Intn(len(r.Plays))
		r.Plays[k].Batch = append(slices.Clone(r.Plays[k].Batch), order.Order{Kind: some(4), Unit: int64(some(5))})
	case 6:
		r.Changes = append(r.Changes, make([]roster.Change, by.Intn(10))...)
	}
	return r
}

// slow is a state in the chapter's words, with who plays in a map.
type slow struct {
	world *world.World
	who   map[int]bool
	epoch int
	pace  pace.Pace
}

func newSlow(g Game) *slow {
	w, _ := world.New(g.Image, g.Seed)
	s := &slow{world: w, who: map[int]bool{}, pace: g.Pace}
	for _, p := range g.Players {
		s.who[p] = true
	}
	return s
}

// sum: of 2^p of who plays.
func (s *slow) sum() uint64 {
	sum := uint64(0)
	for p := range s.who {
		sum += 1 << p
	}
	return sum
}

func (s *slow) apply(r record.Record) api.Errno {
	if e := r.Check(s.world.Turn(), roster.Read(wire.Open(nums(s.sum(), uint64(s.epoch))))); e != api.OK {
		return e
	}
	for _, c := range r.Changes {
		if c.Kind == roster.Join {
			s.who[c.Player] = true
		} else {
			delete(s.who, c.Player)
		}
		s.epoch++
	}
	if r.Pace.Ticks != 0 || r.Pace.Delay != 0 {
		s.pace = r.Pace
	}
	return s.world.Play(r.Plays...)
}

func (s *slow) text() string {
	return shot(s.sum(), uint64(s.epoch), uint64(s.pace.Ticks), uint64(s.pace.Delay), s.world.Text())
}

// anyGame: of some players.
func anyGame(by *rand.Rand) Game {
	g := game(append([]int{0}, by.Perm(8)[:by.Intn(8)]...)...)
	slices.Sort(g.Players)
	g.Players = slices.Compact(g.Players)
	g.Seed = by.Uint64()
	g.Pace = pace.Pace{Ticks: 1 + by.Intn(64), Delay: 1 + by.Intn(6)}
	return g
}

// P22.1, P22.4: records by chance, many of them bent, against the slow ones.
func TestAgainstSlow(t *testing.T) {
	by := rand.New(rand.NewSource(221))
	told := map[api.Errno]int{}
	for range 150 {
		g := anyGame(by)
		s, model := start(t, g), newSlow(g)
		for range 40 {
			r := anyRecord(by, s)
			if by.Intn(2) == 0 {
				r = bend(by, r)
			}
			want := model.apply(r)
			applies(t, s, r, want)
			if s.Snapshot() != model.text() {
				t.Fatalf("behind %+v: %x, not %x", r, s.Snapshot(), model.text())
			}
			told[want]++
		}
	}
	for _, e := range []api.Errno{api.OK, api.ErrOrder, api.ErrArg, api.ErrFull, api.ErrKind, api.ErrThere, api.ErrPlayer, api.ErrStall} {
		if told[e] < 10 {
			t.Errorf("%d was told %d times", e, told[e])
		}
	}
}

// anyRow: a game, and so many records of it by chance.
func anyRow(t *testing.T, by *rand.Rand, n int) (Game, []record.Record) {
	t.Helper()
	g := anyGame(by)
	s := start(t, g)
	var l []record.Record
	for range n {
		r := anyRecord(by, s)
		applies(t, s, r, api.OK)
		l = append(l, r)
	}
	return g, l
}

// P22.2, P3: SAME: whoever begins with the same game, and hears the same records, in whatever parts, with what may not be between them, has the same snapshot.
func TestSame(t *testing.T) {
	by := rand.New(rand.NewSource(222))
	unlike := 0
	for range 60 {
		g, l := anyRow(t, by, 25)
		a, b, c := start(t, g), start(t, g), start(t, g)
		g.Seed++
		d := start(t, g)
		for from := 0; from < len(l); {
			to := min(from+by.Intn(6), len(l))
			alls(t, a, l[from:to], to-from, api.OK)
			for _, r := range l[from:to] {
				if wrong := bend(by, r); b.Clone().Apply(wrong) != api.OK {
					b.Apply(wrong)
				}
				b.All(record.Record{Turn: r.Turn - 1}, r)
				applies(t, b, r, api.OK)
			}
			if look(a) != look(b) {
				t.Fatalf("%s, not %s", look(b), look(a))
			}
			alls(t, d, l[from:to], to-from, api.OK)
			if a.Snapshot() != d.Snapshot() && to > from {
				unlike++
			}
			from = to
		}
		alls(t, c, l, len(l), api.OK)
		if look(a) != look(c) {
			t.Fatalf("all at once: %s, not %s", look(c), look(a))
		}
	}
	if unlike < 60 {
		t.Errorf("%d times another seed comes to another snapshot", unlike)
	}
}

// P22.3, P3: BACK: restored at any turn a state is the same, goes on as it does, and is told the same errors; neither shows in the other.
func TestBack(t *testing.T) {
	by := rand.New(rand.NewSource(223))
	for range 30 {
		g, l := anyRow(t, by, 20)
		s := start(t, g)
		var late []*State
		for _, r := range l {
			u := restores(t, rules(), s.Snapshot(), api.OK)
			if look(u) != look(s) || !u.Roster().Same(s.Roster()) {
				t.Fatalf("%s, not %s", look(u), look(s))
			}
			late = append(late, u)
			was, wrong := look(u), bend(by, r)
			if want := s.Clone().Apply(wrong); want != api.OK {
				applies(t, u, wrong, want)
			}
			applies(t, s, r, api.OK)
			if look(u) != was {
				t.Fatalf("what one applies shows in the other: %s was %s", look(u), was)
			}
			for _, u := range late {
				applies(t, u, r, api.OK)
				if look(u) != look(s) {
					t.Fatalf("%s, not %s", look(u), look(s))
				}
			}
		}
	}
}

// P22.1, P6: snapshots of which some bytes are others: an error, and nothing, or a state that has just these bytes, and goes on.
func TestAnyBytes(t *testing.T) {
	by := rand.New(rand.NewSource(224))
	told := map[api.Errno]int{}
	good := midway(t).Snapshot()
	for range 30000 {
		b := []byte(good)
		for range 1 + by.Intn(3) {
			b[by.Intn(len(b))] = byte(by.Intn(256) >> by.Intn(8))
		}
		b = b[:len(b)-by.Intn(2)*by.Intn(2)*by.Intn(len(b))]
		s, e := Restore(rules(), string(b))
		if (s == nil) != (e != api.OK) {
			t.Fatalf("%x: %v, %d", b, s, e)
		}
		told[e]++
		if s == nil {
			continue
		}
		if s.Snapshot() != string(b) || s.Clone().Snapshot() != string(b) {
			t.Fatalf("%x: %x", b, s.Snapshot())
		}
		if e := s.Apply(anyRecord(by, s)); e != api.OK {
			t.Fatalf("%x: Apply: %d", b, e)
		}
	}
	for _, e := range []api.Errno{api.OK, api.ErrEnd, api.ErrForm, api.ErrBig, api.ErrArg, api.ErrOrder} {
		if told[e] < 100 {
			t.Errorf("%d was told %d times", e, told[e])
		}
	}
}

// P22.1: bytes that are no snapshot, by chance.
func TestNoSnapshot(t *testing.T) {
	by := rand.New(rand.NewSource(225))
	for range 30000 {
		b := make([]byte, by.Intn(40))
		for k := range b {
			b[k] = byte(by.Intn(256) >> by.Intn(9))
		}
		if s, e := Restore(rules(), string(b)); (s == nil) != (e != api.OK) || s != nil && s.Snapshot() != string(b) {
			t.Fatalf("%x: %v, %d", b, s, e)
		}
	}
}

// --- one just like it, and whose memory ---

// P22.1: Clone: of states that are new, that went on, that were restored, and of clones: the same, and neither shows in the other.
func TestClone(t *testing.T) {
	restored := restores(t, rules(), midway(t).Snapshot(), api.OK)
	for _, s := range []*State{start(t, game(0, 1, 2)), midway(t), restored, midway(t).Clone()} {
		c := s.Clone()
		was := look(s)
		if look(c) != was || !c.Roster().Same(s.Roster()) {
			t.Fatalf("%s, not %s", look(c), was)
		}
		r := next(c, join(9), leave(1))
		r.Pace = pace.Pace{Ticks: 50, Delay: 4}
		r.Plays[0].Batch = append(build(1), order.Order{Kind: order.Halt, Unit: 1})
		applies(t, c, r, api.OK)
		if look(s) != was || look(c) == was {
			t.Errorf("the clone went on: %s was %s", look(s), was)
		}
		behind := look(c)
		applies(t, s, r, api.OK)
		if look(s) != behind || look(c) != behind {
			t.Errorf("%s, %s, not %s", look(s), look(c), behind)
		}
		applies(t, s, next(s, leave(9)), api.OK)
		if look(c) != behind {
			t.Errorf("it went on itself: %s was %s", look(c), behind)
		}
	}
}

// P22.1: clones at each turn of a row by chance, and clones of these, all go their own way.
func TestClones(t *testing.T) {
	by := rand.New(rand.NewSource(226))
	for range 20 {
		g, l := anyRow(t, by, 15)
		s := start(t, g)
		all := []*State{s}
		for _, r := range l {
			c := all[by.Intn(len(all))].Clone()
			was := look(s)
			other := anyRecord(by, c)
			applies(t, c.Clone(), other, api.OK)
			if look(c) != was || look(s) != was {
				t.Fatalf("%s, %s, not %s", look(c), look(s), was)
			}
			all = append(all, c)
			for _, x := range all {
				applies(t, x, r, api.OK)
				if look(x) != look(all[0]) {
					t.Fatalf("%s, not %s", look(x), look(all[0]))
				}
			}
		}
	}
}

// P22.1: as many changes as no bytes say any more: a clone has as many, and what Restore tells is layer 18's error.
func TestManyChanges(t *testing.T) {
	s := restores(t, rules(), shot(1, 1<<40, 3, 2, worldText(1)), api.OK)
	applies(t, s, next(s, join(1)), api.OK)
	c := s.Clone()
	stands(t, s, 2, 1<<40+1, s.Pace(), 0, 1)
	if look(c) != look(s) {
		t.Errorf("%s, not %s", look(c), look(s))
	}
	if u, e := Restore(rules(), s.Snapshot()); u != nil || e != api.ErrBig {
		t.Errorf("%v, %d", u, e)
	}
}

// P22.1: more ends than any bytes say: Restore tells layer 10's error; there is no clone, as a world is made anew of its bytes alone; the state goes on.
func TestManyEnds(t *testing.T) {
	text := nums(1, 5, 0, 1, 0, 0, 1<<40, 0, 0, 0, 0, 0)
	s := restores(t, rules(), shot(1, 0, 3, 2, text), api.OK)
	if c := s.Clone(); look(c) != look(s) {
		t.Errorf("%s, not %s", look(c), look(s))
	}
	applies(t, s, next(s), api.OK)
	if u, e := Restore(rules(), s.Snapshot()); u != nil || e != api.ErrBig || s.Clone() != nil {
		t.Errorf("%v, %d, %v", u, e, s.Clone())
	}
	applies(t, s, next(s), api.OK)
	if s.Ends(vm.Done) != 1<<40+2 {
		t.Error(look(s))
	}
}

// messImage: all that an image has is another one, in the memory in which it stands.
func messImage(m code.Image) {
	for k := range m.Funcs {
		clear(m.Funcs[k].Code)
	}
	clear(m.Funcs)
}

// P22.1, K3: a game, and an image, aren't changed, nor kept: what is done to their lists later doesn't show, in clones neither.
func TestGameStays(t *testing.T) {
	g := game(0, 1, 2)
	s := start(t, g)
	m := rules()
	u := restores(t, m, s.Snapshot(), api.OK)
	if !slices.Equal(g.Players, []int{0, 1, 2}) || fmt.Sprint(g.Image, m) != fmt.Sprint(rules(), rules()) {
		t.Fatalf("%+v", g)
	}
	clear(g.Players)
	messImage(g.Image)
	messImage(m)
	want := start(t, game(0, 1, 2))
	l := row(t, 5)
	for _, x := range []*State{want, s, u, s.Clone(), u.Clone(), s.Clone().Clone()} {
		alls(t, x, l, 5, api.OK)
		if look(x) != look(want) {
			t.Errorf("%s, not %s", look(x), look(want))
		}
	}
}

// P22.1, K3: an image with instructions that nothing comes to, whatever they are, may be run, and cloned.
func TestOddImage(t *testing.T) {
	g := game(0)
	f := &g.Image.Funcs[0]
	f.Code = append(f.Code, code.Instr{}, code.Instr{Op: 200, Arg: -1}, code.Instr{Op: code.Jump, Arg: 1 << 40})
	if _, e := verify.Check(g.Image); e != api.OK {
		t.Fatal(e)
	}
	s, want := start(t, g), start(t, game(0))
	for range 3 {
		late := restores(t, g.Image, s.Snapshot(), api.OK)
		all := []*State{s, s.Clone(), late, late.Clone()}
		applies(t, want, next(want), api.OK)
		for _, x := range all {
			applies(t, x, next(x), api.OK)
			if look(x) != look(want) {
				t.Errorf("%s, not %s", look(x), look(want))
			}
		}
	}
}

// messRecord: all that a record has is another one, in the memory in which it stands.
func messRecord(r record.Record) {
	for k := range r.Changes {
		clear(r.Changes[k].Voters)
	}
	clear(r.Changes)
	for k := range r.Plays {
		clear(r.Plays[k].Batch)
	}
	clear(r.Plays)
}

// P22.1, K3: records aren't kept.
func TestRecordsStay(t *testing.T) {
	s, u := midway(t), midway(t)
	r, l := rich(), []record.Record{rich()}
	applies(t, s, r, api.OK)
	alls(t, u, l, 1, api.OK)
	was := look(s)
	messRecord(r)
	messRecord(l[0])
	clear(l)
	if look(s) != was || look(u) != was {
		t.Errorf("%s, %s, not %s", look(s), look(u), was)
	}
	applies(t, s, next(s), api.OK)
	applies(t, u, next(u), api.OK)
	if look(s) != look(u) {
		t.Errorf("%s, not %s", look(u), look(s))
	}
}

// P22.1, K3: what is answered is the asker's own: later calls don't change it, nor does it change a state.
func TestAnswered(t *testing.T) {
	s := midway(t)
	who, p, text, was := s.Roster(), s.Pace(), s.Snapshot(), look(s)
	kept := strings.Clone(text)
	clear(s.Roster().All())
	clear(s.World.All())
	if _, e := s.Roster().With(leave(1)); e != api.OK || look(s) != was {
		t.Errorf("%d: %s was %s", e, look(s), was)
	}
	applies(t, s, rich(), api.OK)
	if !slices.Equal(who.All(), []int{0, 1, 2}) || who.Epoch() != 2 || p != (pace.Pace{Ticks: 7, Delay: 5}) || text != kept {
		t.Errorf("%v, epoch %d, %v, %x", who.All(), who.Epoch(), p, text)
	}
}

// P22.1, K4: asked again, a state answers the same; states of the same game are the same.
func TestAgain(t *testing.T) {
	a, b := midway(t), midway(t)
	for range 3 {
		if look(a) != look(b) || a.Clone().Snapshot() != b.Snapshot() {
			t.Errorf("%s, not %s", look(a), look(b))
		}
		applies(t, a, record.Record{Turn: 9}, api.ErrOrder)
		restores(t, rules(), a.Snapshot()+"x", api.ErrForm)
	}
}

// The images of these tests may be run: a slip here would be told as another fault.
func TestImages(t *testing.T) {
	for _, m := range []code.Image{rules(), otherRules()} {
		if at, e := verify.Check(m); e != api.OK {
			t.Errorf("%+v, %d", at, e)
		}
	}
}
