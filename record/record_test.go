package record

import (
	"fmt"
	"math"
	"math/rand"
	"slices"
	"strings"
	"testing"

	"cotillion/api"
	"cotillion/order"
	"cotillion/pace"
	"cotillion/roster"
	"cotillion/wire"
	"cotillion/world"
)

const last = 1<<40 - 1 // the greatest number of a unit

// upTo: 0 to n-1.
func upTo(n int) []int {
	l := make([]int, n)
	for k := range l {
		l[k] = k
	}
	return l
}

// bare: plays of these players, without orders.
func bare(players ...int) []world.Play {
	var l []world.Play
	for _, p := range players {
		l = append(l, world.Play{Player: p})
	}
	return l
}

// some: one order of each kind, that may be.
func some() order.Batch {
	return order.Batch{
		{Kind: order.Move, Unit: 1, A: 1000, B: -1000},
		{Kind: order.Hit, Unit: last, A: last},
		{Kind: order.Build, A: 255, B: -1000},
		{Kind: order.Halt, Unit: 1 << 20},
	}
}

func join(p int) roster.Change {
	return roster.Change{Kind: roster.Join, Player: p}
}

func leave(p int) roster.Change {
	return roster.Change{Kind: roster.Leave, Player: p}
}

func drop(p int, voters ...int) roster.Change {
	return roster.Change{Kind: roster.Drop, Player: p, Voters: voters}
}

// three: who plays ahead of most of the records here.
func three() roster.Roster {
	return roster.Of(0, 1, 2)
}

// rich: a record that may be as turn 5, behind three: one of each thing that a record says.
func rich() Record {
	return Record{
		Turn:    5,
		Changes: []roster.Change{join(4), drop(1, 0, 2, 4), leave(2), join(31)},
		Pace:    pace.Pace{Ticks: 64, Delay: 6},
		Plays:   []world.Play{{Player: 0, Batch: some()}, {Player: 4}, {Player: 31, Batch: some()[1:2]}},
	}
}

// same: do they say the same? A list that is nil and an empty one do.
func same(r, x Record) bool {
	return fmt.Sprintf("%+v", r) == fmt.Sprintf("%+v", x)
}

// checks: that is Check's answer, and the record is as it was.
func checks(t *testing.T, r Record, next int, was roster.Roster, want api.Errno) {
	t.Helper()
	before := fmt.Sprintf("%+v", r)
	if e := r.Check(next, was); e != want {
		t.Errorf("Check of %+v as turn %d, %v play: %d, not %d", r, next, was.All(), e, want)
	}
	if behind := fmt.Sprintf("%+v", r); behind != before {
		t.Errorf("%s was %s", behind, before)
	}
}

// rosters: these play in it, behind was; beside an error, who played.
func rosters(t *testing.T, r Record, was roster.Roster, want api.Errno, who ...int) {
	t.Helper()
	epoch := was.Epoch()
	if want == api.OK {
		epoch += len(r.Changes)
	}
	s, e := r.Roster(was)
	if e != want || !slices.Equal(s.All(), who) || s.Epoch() != epoch || e != api.OK && !s.Same(was) {
		t.Errorf("Roster of %+v, %v play: %v, epoch %d, %d, not %v, %d, %d", r, was.All(), s.All(), s.Epoch(), e, who, epoch, want)
	}
}

// P20.1: the chapter's example.
func TestExample(t *testing.T) {
	r := Record{Turn: 3, Plays: bare(0)}
	checks(t, r, 3, roster.Of(0), api.OK)
	s := "\x03\x00\x00\x00\x01\x00\x00"
	if r.Text() != s {
		t.Errorf("Text: %x", r.Text())
	}
	if x, e := Parse(s); e != api.OK || !same(x, r) {
		t.Errorf("Parse: %+v, %d", x, e)
	}
}

// P20.1: the limit.
func TestNumbers(t *testing.T) {
	if MostChanges != 8 {
		t.Errorf("%d", MostChanges)
	}
}

// --- who plays in it ---

// P20.1: who plays in it, behind its changes, one by one.
func TestRoster(t *testing.T) {
	rosters(t, Record{}, roster.Roster{}, api.OK)
	rosters(t, Record{}, three(), api.OK, 0, 1, 2)
	rosters(t, Record{Changes: []roster.Change{}}, three(), api.OK, 0, 1, 2)
	rosters(t, Record{Changes: []roster.Change{join(31)}}, three(), api.OK, 0, 1, 2, 31)
	rosters(t, Record{Changes: []roster.Change{leave(2)}}, three(), api.OK, 0, 1)
	rosters(t, Record{Changes: []roster.Change{drop(2, 0, 1)}}, three(), api.OK, 0, 1)
	rosters(t, Record{Changes: []roster.Change{join(4), drop(2, 0, 1, 4), leave(4)}}, three(), api.OK, 0, 1)
	rosters(t, Record{Changes: []roster.Change{leave(1), join(1)}}, three(), api.OK, 0, 1, 2)
	rosters(t, rich(), three(), api.OK, 0, 4, 31)
	late, e := three().With(join(5), leave(5), join(7))
	if e != api.OK {
		t.Fatal(e)
	}
	rosters(t, Record{}, late, api.OK, 0, 1, 2, 7)
	rosters(t, Record{Changes: []roster.Change{leave(7), join(3)}}, late, api.OK, 0, 1, 2, 3)
}

// P20.1: Roster looks at nothing but the changes.
func TestRosterAlone(t *testing.T) {
	r := Record{Turn: -1, Changes: []roster.Change{join(4)}, Pace: pace.Pace{Ticks: 99, Delay: -1}, Plays: bare(9, 9, -1)}
	rosters(t, r, three(), api.OK, 0, 1, 2, 4)
}

// comings: so many changes that may be, behind three.
func comings(n int) []roster.Change {
	var l []roster.Change
	for k := range n {
		l = append(l, join(3+k))
	}
	return l
}

// P20.1: eight changes may be, nine may not, whatever they say.
func TestMostChanges(t *testing.T) {
	for n := range 9 {
		r := Record{Changes: comings(n), Plays: bare(upTo(3 + n)...)}
		rosters(t, r, three(), api.OK, upTo(3+n)...)
		checks(t, r, 0, three(), api.OK)
	}
	for _, l := range [][]roster.Change{
		comings(9), comings(20), make([]roster.Change, 9), make([]roster.Change, 1000),
		append(comings(8), roster.Change{Kind: 9}), append([]roster.Change{{Kind: 9}}, comings(8)...),
	} {
		r := Record{Changes: l, Plays: bare(upTo(3 + len(l))...)}
		rosters(t, r, three(), api.ErrFull, 0, 1, 2)
		checks(t, r, 0, three(), api.ErrFull)
	}
	rosters(t, Record{Changes: make([]roster.Change, 8)}, three(), api.ErrKind, 0, 1, 2)
}

// wrongChanges: each with what layer 18 says of it, wherever it stands beside rightChanges.
func wrongChanges() map[api.Errno]roster.Change {
	return map[api.Errno]roster.Change{
		api.ErrKind:   {Kind: 4, Player: 1},
		api.ErrArg:    leave(roster.Host),
		api.ErrThere:  join(1),
		api.ErrPlayer: leave(20),
		api.ErrStall:  drop(1, 0),
	}
}

func rightChanges() []roster.Change {
	return []roster.Change{join(3), leave(3), drop(2, 0, 1), join(5)}
}

// P20.1: a change that may not be, at the front, in the midst and at the end: its error, and nobody comes or goes.
func TestWrongChange(t *testing.T) {
	rosters(t, Record{Changes: rightChanges()}, three(), api.OK, 0, 1, 5)
	for want, c := range wrongChanges() {
		for at := range len(rightChanges()) + 1 {
			r := Record{Changes: slices.Insert(rightChanges(), at, c), Plays: bare(0, 1, 5)}
			rosters(t, r, three(), want, 0, 1, 2)
			checks(t, r, 0, three(), want)
		}
	}
	two := Record{Changes: []roster.Change{leave(2), leave(2), {Kind: 7}}} // the first error is told
	rosters(t, two, three(), api.ErrPlayer, 0, 1, 2)
	checks(t, two, 0, three(), api.ErrPlayer)
}

// --- may it be? ---

// P20.1: Turn is the one that comes next, or ErrOrder.
func TestTurn(t *testing.T) {
	for _, next := range []int{0, 1, 5, 1 << 32, 1<<40 - 1, 1 << 40} {
		r := Record{Turn: next, Plays: bare(0, 1, 2)}
		checks(t, r, next, three(), api.OK)
		for _, other := range []int{next - 1, next + 1, next + 2, next + 1<<32, -next - 1, math.MaxInt, math.MinInt} {
			r.Turn = other
			checks(t, r, next, three(), api.ErrOrder)
		}
	}
}

// P20.1: a Pace of zero says nothing; another one is one that may be, or ErrArg.
func TestPace(t *testing.T) {
	r := Record{Plays: bare(0, 1, 2)}
	checks(t, r, 0, three(), api.OK)
	for _, ticks := range []int{math.MinInt, -1, 0, 1, 2, 63, 64, 65, 1<<32 + 1, math.MaxInt} {
		for _, delay := range []int{math.MinInt, -1, 0, 1, 5, 6, 7, 1<<32 + 1, math.MaxInt} {
			r.Pace = pace.Pace{Ticks: ticks, Delay: delay}
			want := api.ErrArg
			if 1 <= ticks && ticks <= 64 && 1 <= delay && delay <= 6 || ticks == 0 && delay == 0 {
				want = api.OK
			}
			checks(t, r, 0, three(), want)
		}
	}
}

// P20.1, P20.2: one play of each who plays, rising, and of nobody else.
func TestPlayers(t *testing.T) {
	is := func(want api.Errno, players ...int) {
		t.Helper()
		checks(t, Record{Plays: bare(players...)}, 0, three(), want)
	}
	is(api.OK, 0, 1, 2)
	is(api.ErrPlayer) // no plays
	is(api.ErrPlayer, 1, 2)
	is(api.ErrPlayer, 0, 2)
	is(api.ErrPlayer, 0, 1)
	is(api.ErrPlayer, 0, 1, 2, 3)
	is(api.ErrPlayer, -1, 0, 1, 2)
	is(api.ErrPlayer, 0, 1, 2, 32)
	is(api.ErrPlayer, 0, 1, 3)
	is(api.ErrPlayer, 0, 1, 34) // 2 in five bits
	is(api.ErrPlayer, 0, 0, 1, 2)
	is(api.ErrPlayer, 0, 1, 2, 2)
	is(api.ErrPlayer, 0, 1, 1)
	is(api.ErrPlayer, 0, 0, 0)
	is(api.ErrPlayer, 1, 0, 2)
	is(api.ErrPlayer, 0, 2, 1)
	is(api.ErrPlayer, 2, 1, 0)
	is(api.ErrPlayer, 1, 2, 3)
	is(api.ErrPlayer, math.MinInt, math.MaxInt, 0)
	is(api.ErrPlayer, make([]int, 1000)...)
}

// P20.1: without anyone there are no plays.
func TestNobody(t *testing.T) {
	checks(t, Record{}, 0, roster.Roster{}, api.OK)
	checks(t, Record{Plays: []world.Play{}}, 0, roster.Roster{}, api.OK)
	checks(t, Record{Plays: bare(0)}, 0, roster.Roster{}, api.ErrPlayer)
	checks(t, Record{Changes: []roster.Change{leave(5)}}, 0, roster.Of(5), api.OK)
	checks(t, Record{Changes: []roster.Change{leave(5)}, Plays: bare(5)}, 0, roster.Of(5), api.ErrPlayer)
}

// P20.1, P20.2: who comes by the record's own changes plays in it, and who goes by them doesn't.
func TestPlaysOfChanges(t *testing.T) {
	is := func(want api.Errno, c roster.Change, players ...int) {
		t.Helper()
		checks(t, Record{Changes: []roster.Change{c}, Plays: bare(players...)}, 0, three(), want)
	}
	is(api.OK, join(4), 0, 1, 2, 4)
	is(api.ErrPlayer, join(4), 0, 1, 2)
	is(api.ErrPlayer, join(4), 0, 1, 2, 3)
	is(api.ErrPlayer, join(4), 4, 0, 1, 2)
	is(api.OK, leave(1), 0, 2)
	is(api.ErrPlayer, leave(1), 0, 1, 2)
	is(api.ErrPlayer, leave(1), 0, 1)
	is(api.OK, drop(2, 0, 1), 0, 1)
	is(api.ErrPlayer, drop(2, 0, 1), 0, 1, 2)
	is(api.ErrPlayer, drop(2, 0, 1), 0)
	both := []roster.Change{join(4), leave(4), leave(2), join(2)}
	checks(t, Record{Changes: both, Plays: bare(0, 1, 2)}, 0, three(), api.OK)
	checks(t, Record{Changes: both, Plays: bare(0, 1, 4)}, 0, three(), api.ErrPlayer)
}

// P20.1: a batch that may not be, at each of the plays; of two the first one is told.
func TestBatches(t *testing.T) {
	wrong := map[api.Errno]order.Batch{
		api.ErrFull: slices.Repeat(some()[:1], 9),
		api.ErrKind: {some()[0], {Kind: 5, Unit: 1}},
		api.ErrArg:  {some()[0], {Kind: order.Move}},
	}
	for want, b := range wrong {
		for at := range 3 {
			r := Record{Plays: bare(0, 1, 2)}
			r.Plays[0].Batch = some()
			r.Plays[at].Batch = b
			checks(t, r, 0, three(), want)
			for _, later := range wrong {
				for k := at + 1; k < 3; k++ {
					r.Plays[k].Batch = later
				}
				checks(t, r, 0, three(), want)
			}
		}
	}
	eight := slices.Repeat(some(), 2)
	checks(t, Record{Plays: []world.Play{{Player: 0, Batch: eight}, {Player: 1, Batch: eight}, {Player: 2, Batch: eight}}}, 0, three(), api.OK)
}

// crowd: a record of 32 players, each with eight orders.
func crowd() Record {
	r := Record{Turn: 1 << 40, Changes: []roster.Change{leave(31), join(31)}, Plays: bare(upTo(32)...)}
	for k := range r.Plays {
		r.Plays[k].Batch = slices.Repeat(some(), 2)
	}
	return r
}

// P20.1, P20.2: a record of 32 players, and what is wrong with one of them.
func TestAllPlay(t *testing.T) {
	all := roster.Of(upTo(32)...)
	checks(t, crowd(), 1<<40, all, api.OK)
	for at := range 32 {
		r := crowd()
		r.Plays = slices.Delete(r.Plays, at, at+1)
		checks(t, r, 1<<40, all, api.ErrPlayer)
		r = crowd()
		r.Plays = slices.Insert(r.Plays, at, r.Plays[at])
		checks(t, r, 1<<40, all, api.ErrPlayer)
		r = crowd()
		r.Plays[at].Player++
		checks(t, r, 1<<40, all, api.ErrPlayer)
		r = crowd()
		r.Plays[at].Batch[7].Unit = -1
		checks(t, r, 1<<40, all, api.ErrArg)
	}
}

// fault is one thing that may be wrong, and what is told of it.
type fault struct {
	bend func(r *Record)
	want api.Errno
}

// faults: in the order in which they are told.
func faults() []fault {
	return []fault{
		{func(r *Record) { r.Turn++ }, api.ErrOrder},
		{func(r *Record) { r.Pace.Delay = 7 }, api.ErrArg},
		{func(r *Record) { r.Changes = append(r.Changes, make([]roster.Change, 5)...) }, api.ErrFull},
		{func(r *Record) { r.Changes[1].Voters = []int{0, 2} }, api.ErrStall},
		{func(r *Record) { r.Changes[2] = leave(9) }, api.ErrPlayer},
		{func(r *Record) { r.Changes[3].Kind = 0 }, api.ErrKind},
		{func(r *Record) { r.Plays[1].Player = 5 }, api.ErrPlayer},
		{func(r *Record) { r.Plays[0].Batch[2].A = 256 }, api.ErrArg},
		{func(r *Record) { r.Plays[2].Batch[0].Kind = 0 }, api.ErrKind},
	}
}

// P20.1: of all faults that there may be together the first one is told.
func TestFirstError(t *testing.T) {
	checks(t, rich(), 5, three(), api.OK)
	for mask := 1; mask < 1<<len(faults()); mask++ {
		r, want := rich(), api.OK
		for k, f := range faults() {
			if mask>>k&1 == 0 {
				continue
			}
			f.bend(&r)
			if want == api.OK {
				want = f.want
			}
		}
		checks(t, r, 5, three(), want)
	}
}

// P20.1: how many orders its plays have.
func TestOrders(t *testing.T) {
	with := func(sizes ...int) Record {
		var r Record
		for p, n := range sizes {
			r.Plays = append(r.Plays, world.Play{Player: p, Batch: make(order.Batch, n)})
		}
		return r
	}
	for _, c := range []struct {
		r    Record
		want int
	}{
		{Record{}, 0}, {rich(), 5}, {crowd(), 256}, {with(0), 0}, {with(1), 1}, {with(0, 8, 0), 8}, {with(3, 1, 2), 6},
		{Record{Changes: comings(8), Plays: bare(upTo(9)...)}, 0},
		{with(9, 1000), 1009}, // of what may not be, too
	} {
		if n := c.r.Orders(); n != c.want {
			t.Errorf("Orders: %d, not %d", n, c.want)
		}
	}
}

// --- its bytes ---

// counts: numbers as bytes.
func counts(l ...int) string {
	return new(wire.Out).Count(l...).Text()
}

// step is one number of a record's bytes.
type step struct {
	spelled string
	most    uint64 // the greatest one that may stand there, as far as layer 2 tells; 0: any
}

// steps: the numbers of a record's bytes, as the chapters' words say them.
func steps(r Record) []step {
	var l []step
	num := func(n int, most uint64) { l = append(l, step{counts(n), most}) }
	whole := func(n int64) { l = append(l, step{new(wire.Out).Int(n).Text(), 0}) }
	num(r.Turn, 1<<40)
	num(len(r.Changes), 8)
	for _, c := range r.Changes {
		num(c.Kind, 3)
		num(c.Player, 31)
		num(len(c.Voters), 32)
		for _, v := range c.Voters {
			num(v, 31)
		}
	}
	num(r.Pace.Ticks, 64)
	num(r.Pace.Delay, 6)
	num(len(r.Plays), 32)
	for _, p := range r.Plays {
		num(p.Player, 31)
		num(len(p.Batch), 8)
		for _, o := range p.Batch {
			num(o.Kind, 4)
			num(int(o.Unit), 1<<40)
			whole(o.A)
			whole(o.B)
		}
	}
	return l
}

// together: their bytes.
func together(l []step) string {
	var b strings.Builder
	for _, s := range l {
		b.WriteString(s.spelled)
	}
	return b.String()
}

// P20.1: known bytes, by Text and by Put behind others.
func TestText(t *testing.T) {
	for want, r := range map[string]Record{
		"\x00\x00\x00\x00\x00":                                             {},
		"\x80\x80\x80\x80\x80\x20\x00\x00\x00\x00":                         {Turn: 1 << 40},
		"\x05\x01\x01\x04\x00\x00\x00\x01\x00\x00":                         {Turn: 5, Changes: []roster.Change{join(4)}, Plays: bare(0)},
		"\x05\x01\x03\x02\x02\x00\x01\x40\x06\x02\x00\x00\x01\x00":         {Turn: 5, Changes: []roster.Change{drop(2, 0, 1)}, Pace: pace.Pace{Ticks: 64, Delay: 6}, Plays: bare(0, 1)},
		"\xac\x02\x00\x01\x02\x02\x00\x01\x01\x01\x04\x01\x1f\x00":         {Turn: 300, Pace: pace.Pace{Ticks: 1, Delay: 2}, Plays: []world.Play{{Player: 0, Batch: order.Batch{{Kind: order.Move, Unit: 1, A: 2, B: -1}}}, {Player: 31}}},
		"\x00\x00\x00\x00\x01\x07\x02\x03\x00\x06\x07\x04\x80\x01\x00\x00": {Plays: []world.Play{{Player: 7, Batch: order.Batch{{Kind: order.Build, A: 3, B: -4}, {Kind: order.Halt, Unit: 128}}}}},
	} {
		if s := r.Text(); s != want || together(steps(r)) != want {
			t.Errorf("Text of %+v: %x, not %x", r, s, want)
		}
		var o wire.Out
		o.Raw("ab")
		r.Put(&o)
		o.Raw("c")
		r.Put(&o)
		if o.Text() != "ab"+want+"c"+want {
			t.Errorf("Put of %+v: %x", r, o.Text())
		}
	}
}

// reads: these bytes are that record, by Read, also ahead of others, and by Parse.
func reads(t *testing.T, s string, want Record) {
	t.Helper()
	for _, behind := range []string{"", "\x00", "\xff\xff", "\x80\x00"} {
		i := wire.Open(s + behind)
		if r := Read(i); !same(r, want) || i.Err() != api.OK || i.Len() != len(behind) {
			t.Fatalf("Read of %x, %x: %+v, %d, %d left, not %+v", s, behind, r, i.Err(), i.Len(), want)
		}
	}
	if r, e := Parse(s); !same(r, want) || e != api.OK {
		t.Fatalf("Parse of %x: %+v, %d, not %+v", s, r, e, want)
	}
}

// refuses: that is the error of these bytes, by Read and by Parse, and beside it all is zero.
func refuses(t *testing.T, s string, want api.Errno) {
	t.Helper()
	i := wire.Open(s)
	if r := Read(i); !same(r, Record{}) || i.Err() != want || i.Len() != 0 {
		t.Fatalf("Read of %x: %+v, %d, %d left, not %d", s, r, i.Err(), i.Len(), want)
	}
	if r, e := Parse(s); !same(r, Record{}) || e != want {
		t.Fatalf("Parse of %x: %+v, %d, not %d", s, r, e, want)
	}
}

// odd: records that can be read, though some of them may not be behind any roster; the greatest numbers are all there.
func odd() []Record {
	most := roster.Change{Kind: 3, Player: 31, Voters: slices.Repeat([]int{31}, 32)}
	return []Record{
		{}, rich(), crowd(), {Turn: 7, Plays: bare(0)},
		{Changes: make([]roster.Change, 8)},
		{Turn: 1 << 40, Changes: slices.Repeat([]roster.Change{most}, 8), Pace: pace.Pace{Ticks: 64, Delay: 6}, Plays: crowd().Plays},
		{Pace: pace.Pace{Ticks: 64}},
		{Pace: pace.Pace{Delay: 6}},
		{Plays: bare(31, 3, 3, 0)},
		{Plays: bare(slices.Repeat([]int{31}, 32)...)},
	}
}

// P20.1, P20.3: what Read takes, and where it ends.
func TestRead(t *testing.T) {
	for _, r := range odd() {
		s := together(steps(r))
		reads(t, s, r)
		if r.Text() != s {
			t.Errorf("Text of %+v: %x", r, r.Text())
		}
	}
}

// P20.1: something left is ErrForm, of Parse alone.
func TestLeft(t *testing.T) {
	for _, r := range odd() {
		for _, behind := range []string{"\x00", "\x80", "\x80\x00", "\xff\xff\xff", r.Text()} {
			if x, e := Parse(r.Text() + behind); !same(x, Record{}) || e != api.ErrForm {
				t.Fatalf("Parse of %x, %x: %+v, %d", r.Text(), behind, x, e)
			}
		}
	}
}

// P20.1: bytes that are cut, at every place.
func TestCut(t *testing.T) {
	for _, r := range odd() {
		s := r.Text()
		for n := range len(s) {
			refuses(t, s[:n], api.ErrEnd)
		}
	}
}

// P20.1: each number spelled too long, and beyond its bound: told ahead of whatever is behind it.
func TestWrongNumbers(t *testing.T) {
	for _, r := range odd() {
		l := steps(r)
		for k, s := range l {
			front := together(l[:k])
			tails := []string{together(l[k+1:]), "", "\x80\x00", "\xff", counts(math.MaxInt)}
			for _, tail := range tails {
				n := len(s.spelled) - 1
				refuses(t, front+s.spelled[:n]+string([]byte{s.spelled[n] | 128, 0})+tail, api.ErrForm)
				refuses(t, front+strings.Repeat("\xff", 9)+"\x02"+tail, api.ErrForm)
				if s.most > 0 {
					refuses(t, front+new(wire.Out).Num(s.most+1).Text()+tail, api.ErrBig)
					refuses(t, front+new(wire.Out).Num(s.most+1<<32).Text()+tail, api.ErrBig)
					refuses(t, front+new(wire.Out).Num(math.MaxUint64).Text()+tail, api.ErrBig)
				}
			}
		}
	}
}

// P20.1: an order that may not be is told behind its own bytes, ahead of those of the next one.
func TestReadWrongOrder(t *testing.T) {
	front := counts(3, 0, 0, 0, 2, 0, 0, 4, 3) // of three orders of player 4
	right, kind, arg := counts(1, 1, 4, 1), counts(0, 1, 4, 1), counts(1, 0, 4, 1)
	for _, tail := range []string{"", right, kind, arg, "\x80\x00", "\x05", "\xff"} {
		refuses(t, front+kind+tail, api.ErrKind)
		refuses(t, front+arg+tail, api.ErrArg)
		refuses(t, front+right+kind+tail, api.ErrKind)
		refuses(t, front+right+arg+tail, api.ErrArg)
		refuses(t, front+right+right+kind+tail, api.ErrKind)
		refuses(t, front+right+right+arg+tail, api.ErrArg)
	}
	refuses(t, front+kind[:3], api.ErrEnd) // it isn't all there
	refuses(t, front+counts(0, 1, 4)+"\x81\x00", api.ErrForm)
	refuses(t, front+counts(0, 1<<40+1, 4, 1), api.ErrBig)
	refuses(t, front+counts(1, 1<<40, 4, 1), api.ErrArg) // within layer 2's bound
	refuses(t, front+counts(4, 1, 2, 0), api.ErrArg)
	refuses(t, counts(3, 0, 0, 0, 1, 0, 9)+strings.Repeat(right, 9), api.ErrBig)
}

// P20.1: an error that the reader has stays.
func TestReadBehindError(t *testing.T) {
	for _, e := range []api.Errno{api.ErrSum, api.ErrGone, api.ErrEnd} {
		i := wire.Open(rich().Text())
		i.Fail(e)
		if r := Read(i); !same(r, Record{}) || i.Err() != e {
			t.Errorf("%+v, %d, not %d", r, i.Err(), e)
		}
	}
}

// P20.1: one behind the other, of the same bytes.
func TestReadOneByOne(t *testing.T) {
	var o wire.Out
	for _, r := range odd() {
		r.Put(&o)
	}
	i := wire.Open(o.Text())
	for _, r := range odd() {
		if x := Read(i); !same(x, r) {
			t.Errorf("%+v, not %+v", x, r)
		}
	}
	if e := i.End(); e != api.OK {
		t.Error(e)
	}
}

// --- by chance ---

// anyOrder: one that may be.
func anyOrder(by *rand.Rand) order.Order {
	id, place := 1+by.Int63n(last)>>by.Intn(40), by.Int63n(2001)-1000
	switch by.Intn(4) {
	case 0:
		return order.Order{Kind: order.Move, Unit: id, A: place, B: by.Int63n(2001) - 1000}
	case 1:
		return order.Order{Kind: order.Hit, Unit: id, A: 1 + by.Int63n(last)>>by.Intn(40)}
	case 2:
		return order.Order{Kind: order.Build, A: by.Int63n(256), B: place}
	}
	return order.Order{Kind: order.Halt, Unit: id}
}

// anyChanges: some that may be, one behind the other, and who plays behind them.
func anyChanges(by *rand.Rand, who roster.Roster) ([]roster.Change, roster.Roster) {
	var l []roster.Change
	for range by.Intn(9) {
		c := roster.Change{Kind: 1 + by.Intn(3), Player: by.Intn(32)}
		if c.Kind == roster.Drop {
			c.Voters = slices.DeleteFunc(who.All(), func(p int) bool { return p == c.Player || by.Intn(4) == 0 })
		}
		if behind, e := who.With(c); e == api.OK {
			l, who = append(l, c), behind
		}
	}
	return l, who
}

// anyRecord: one that may be, behind was.
func anyRecord(by *rand.Rand, was roster.Roster) Record {
	r := Record{Turn: int(by.Int63n(1<<40+1) >> by.Intn(41))}
	var who roster.Roster
	r.Changes, who = anyChanges(by, was)
	if by.Intn(2) == 0 {
		r.Pace = pace.Pace{Ticks: 1 + by.Intn(64), Delay: 1 + by.Intn(6)}
	}
	r.Plays = bare(who.All()...)
	for k := range r.Plays {
		for range by.Intn(9) {
			r.Plays[k].Batch = append(r.Plays[k].Batch, anyOrder(by))
		}
	}
	return r
}

// P20.3: there and back: records that may be; what is read is written the same, and may be, too.
func TestThereAndBack(t *testing.T) {
	by := rand.New(rand.NewSource(201))
	for range 3000 {
		was := roster.Of(by.Perm(32)[:by.Intn(33)]...)
		r := anyRecord(by, was)
		checks(t, r, r.Turn, was, api.OK)
		s := r.Text()
		if s != together(steps(r)) {
			t.Fatalf("Text of %+v: %x", r, s)
		}
		reads(t, s, r)
		x, _ := Parse(s)
		if x.Text() != s || x.Check(r.Turn, was) != api.OK || x.Orders() != r.Orders() {
			t.Fatalf("%+v was %+v", x, r)
		}
	}
}

// P20.3: bytes by chance, and those of records with some of them bent: an error, or what is written the same.
func TestBytesByChance(t *testing.T) {
	by := rand.New(rand.NewSource(202))
	told := map[api.Errno]int{}
	for range 100000 {
		b := make([]byte, by.Intn(24))
		for k := range b {
			b[k] = byte(by.Intn(6))
		}
		if by.Intn(2) == 0 {
			b = []byte(anyRecord(by, roster.Of(0, by.Intn(32))).Text())
		}
		for range by.Intn(3) {
			if len(b) > 0 {
				b[by.Intn(len(b))] = byte(by.Intn(256))
			}
		}
		s := string(b)
		i := wire.Open(s)
		r := Read(i)
		if i.Err() == api.OK && r.Text() != s[:len(s)-i.Len()] || i.Err() != api.OK && !same(r, Record{}) {
			t.Fatalf("Read of %x: %+v, %d", s, r, i.Err())
		}
		want := i.Err()
		if want == api.OK && i.Len() > 0 {
			want = api.ErrForm
		}
		if x, e := Parse(s); e != want || e == api.OK && !same(x, r) || e != api.OK && !same(x, Record{}) {
			t.Fatalf("Parse of %x: %+v, %d, not %+v, %d", s, x, e, r, want)
		}
		told[want]++
	}
	for _, e := range []api.Errno{api.OK, api.ErrEnd, api.ErrForm, api.ErrBig, api.ErrKind, api.ErrArg} {
		if told[e] < 100 {
			t.Errorf("%d was told %d times", e, told[e])
		}
	}
}

// slowRoster: who plays in it, as the chapter's words say, and slow.
func slowRoster(r Record, was roster.Roster) (roster.Roster, api.Errno) {
	if len(r.Changes) >= 9 {
		return was, api.ErrFull
	}
	who := was
	for _, c := range r.Changes {
		if e := who.Check(c); e != api.OK {
			return was, e
		}
		who, _ = who.With(c)
	}
	return who, api.OK
}

// justThose: has each who plays just one play, nobody else has one, and do they rise?
func justThose(plays []world.Play, who roster.Roster) bool {
	count := map[int]int{}
	for k, p := range plays {
		count[p.Player]++
		if k > 0 && p.Player <= plays[k-1].Player {
			return false
		}
	}
	for _, p := range who.All() {
		if count[p] != 1 {
			return false
		}
	}
	return len(count) == who.Len()
}

// slowCheck: the chapter's words, one behind the other.
func slowCheck(r Record, next int, was roster.Roster) api.Errno {
	if r.Turn != next {
		return api.ErrOrder
	}
	if p := r.Pace; (p.Ticks != 0 || p.Delay != 0) && (p.Ticks < 1 || p.Ticks > 64 || p.Delay < 1 || p.Delay > 6) {
		return api.ErrArg
	}
	who, e := slowRoster(r, was)
	if e != api.OK {
		return e
	}
	if !justThose(r.Plays, who) {
		return api.ErrPlayer
	}
	for _, p := range r.Plays {
		if e := p.Batch.Check(); e != api.OK {
			return e
		}
	}
	return api.OK
}

// bend: one thing of a record is another one.
func bend(by *rand.Rand, r *Record) {
	some := func(n int) int { return by.Intn(n+3) - 1 }
	switch by.Intn(10) {
	case 0:
		r.Turn += by.Intn(3) - 1
	case 1:
		r.Pace.Ticks = some(64)
	case 2:
		r.Pace.Delay = some(6)
	case 3:
		c := roster.Change{Kind: some(3), Player: some(31)}
		r.Changes = slices.Insert(r.Changes, by.Intn(len(r.Changes)+1), c)
	case 4:
		r.Plays = slices.Insert(r.Plays, by.Intn(len(r.Plays)+1), world.Play{Player: some(31)})
	case 5:
		r.Plays = append(r.Plays, bare(some(31))...)
	}
	if n := len(r.Plays); n > 0 {
		at := by.Intn(n)
		switch by.Intn(10) {
		case 0:
			r.Plays = slices.Delete(r.Plays, at, at+1)
		case 1:
			r.Plays[at].Player = some(31)
		case 2:
			r.Plays[at], r.Plays[0] = r.Plays[0], r.Plays[at]
		case 3:
			r.Plays[at].Batch = append(r.Plays[at].Batch, order.Order{Kind: some(4), Unit: int64(some(5))})
		}
	}
}

// P20.1, P20.2: records by chance, more often than not bent, against the chapter's words.
func TestCheckByChance(t *testing.T) {
	by := rand.New(rand.NewSource(203))
	told := map[api.Errno]int{}
	for range 20000 {
		was := roster.Of(by.Perm(32)[:1+by.Intn(6)]...)
		r := anyRecord(by, was)
		next := r.Turn
		for range by.Intn(3) {
			bend(by, &r)
		}
		want := slowCheck(r, next, was)
		checks(t, r, next, was, want)
		who, e := r.Roster(was)
		if slow, f := slowRoster(r, was); e != f || !who.Same(slow) {
			t.Fatalf("Roster of %+v, %v play: %v, %d, not %v, %d", r, was.All(), who.All(), e, slow.All(), f)
		}
		if want == api.OK && !justThose(r.Plays, who) {
			t.Fatalf("%+v, %v play", r, who.All())
		}
		told[want]++
	}
	for _, e := range []api.Errno{api.OK, api.ErrOrder, api.ErrArg, api.ErrFull, api.ErrKind, api.ErrThere, api.ErrPlayer, api.ErrStall} {
		if told[e] < 20 {
			t.Errorf("%d was told %d times", e, told[e])
		}
	}
}

// --- whose memory ---

// mess: all that a record has is another one, in the memory in which it stands.
func mess(r Record) {
	for k := range r.Changes {
		clear(r.Changes[k].Voters[:cap(r.Changes[k].Voters)])
	}
	clear(r.Changes[:cap(r.Changes)])
	for k := range r.Plays {
		clear(r.Plays[k].Batch[:cap(r.Plays[k].Batch)])
	}
	clear(r.Plays[:cap(r.Plays)])
}

// P20.1, K3: no call changes what it is called on, or keeps it.
func TestHandedIn(t *testing.T) {
	r := rich()
	was := three()
	who, _ := r.Roster(was)
	s := r.Text()
	var o wire.Out
	r.Put(&o)
	r.Orders()
	checks(t, r, 5, was, api.OK)
	if !same(r, rich()) {
		t.Errorf("%+v", r)
	}
	mess(r)
	if !slices.Equal(who.All(), []int{0, 4, 31}) || who.Epoch() != 4 || s != rich().Text() || o.Text() != s {
		t.Errorf("%v, %x", who.All(), s)
	}
	if !was.Same(three()) {
		t.Errorf("%v play", was.All())
	}
}

// P20.1, K3: what is answered is the asker's own; no two lists of it share anything.
func TestAnswered(t *testing.T) {
	s := rich().Text()
	i := wire.Open(s + s + s)
	one, two, three := Read(i), Read(i), Read(i)
	mess(one)
	if !same(two, rich()) || !same(three, rich()) {
		t.Errorf("%+v, %+v", two, three)
	}
	x, _ := Parse(s)
	y, _ := Parse(s)
	mess(x)
	if z, e := Parse(s); !same(y, rich()) || !same(z, rich()) || e != api.OK {
		t.Errorf("%+v, %+v", y, z)
	}
	_ = append(two.Plays[0].Batch, order.Order{Kind: 9})
	_ = append(two.Changes[1].Voters, 9)
	clear(two.Plays[0].Batch)
	if !same(Record{Plays: two.Plays[2:]}, Record{Plays: rich().Plays[2:]}) || !slices.Equal(two.Changes[1].Voters, []int{0, 2, 4}) {
		t.Errorf("%+v", two)
	}
}

// P20.1, K4: the same calls are answered in the same way.
func TestAgain(t *testing.T) {
	r := rich()
	for range 3 {
		checks(t, r, 5, three(), api.OK)
		checks(t, r, 6, three(), api.ErrOrder)
		rosters(t, r, three(), api.OK, 0, 4, 31)
		if r.Text() != rich().Text() || r.Orders() != 5 {
			t.Errorf("%x, %d", r.Text(), r.Orders())
		}
	}
}
