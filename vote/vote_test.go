package vote

import (
	"math"
	"math/rand"
	"slices"
	"testing"

	"cotillion/api"
	"cotillion/roster"
)

// upTo: 0 to n-1.
func upTo(n int) []int {
	l := make([]int, n)
	for k := range l {
		l[k] = k
	}
	return l
}

// asks: that player is in question from now on.
func asks(t *testing.T, b *Box, player int) {
	t.Helper()
	if e := b.Ask(player); e != api.OK {
		t.Fatalf("Ask %d: %d", player, e)
	}
}

// says: these say so of a player.
func says(t *testing.T, b *Box, player int, yes bool, voters ...int) {
	t.Helper()
	for _, v := range voters {
		if e := b.Vote(v, player, yes); e != api.OK {
			t.Fatalf("Vote of %d on %d: %d", v, player, e)
		}
	}
}

// sight is all that can be asked of a box, without a change.
type sight struct {
	who    []int
	epoch  int
	all    []int
	open   []bool
	yes    [][]int
	lost   []bool
	won    []bool
	change []roster.Change
}

func seen(b *Box) sight {
	s := sight{who: b.Roster().All(), epoch: b.Roster().Epoch(), all: b.All()}
	for p := -2; p < 35; p++ {
		c, won := b.Won(p)
		s.open = append(s.open, b.Open(p))
		s.yes = append(s.yes, b.Yes(p))
		s.lost = append(s.lost, b.Lost(p))
		s.won = append(s.won, won)
		s.change = append(s.change, c)
	}
	return s
}

func sameChange(c, d roster.Change) bool {
	return c.Kind == d.Kind && c.Player == d.Player && slices.Equal(c.Voters, d.Voters)
}

func (s sight) same(x sight) bool {
	return slices.Equal(s.who, x.who) && s.epoch == x.epoch && slices.Equal(s.all, x.all) && slices.Equal(s.open, x.open) &&
		slices.EqualFunc(s.yes, x.yes, slices.Equal) && slices.Equal(s.lost, x.lost) && slices.Equal(s.won, x.won) &&
		slices.EqualFunc(s.change, x.change, sameChange)
}

// same: all that can be asked is as it was.
func same(t *testing.T, b *Box, was sight) {
	t.Helper()
	if s := seen(b); !s.same(was) {
		t.Fatalf("%+v, not %+v", s, was)
	}
}

// asksNot and saysNot: that is the error, and nothing changes.
func asksNot(t *testing.T, b *Box, player int, want api.Errno) {
	t.Helper()
	was := seen(b)
	if e := b.Ask(player); e != want {
		t.Errorf("Ask %d: %d, not %d", player, e, want)
	}
	same(t, b, was)
}

func saysNot(t *testing.T, b *Box, voter, player int, want api.Errno) {
	t.Helper()
	was := seen(b)
	for _, yes := range []bool{true, false} {
		if e := b.Vote(voter, player, yes); e != want {
			t.Errorf("Vote of %d on %d, %v: %d, not %d", voter, player, yes, e, want)
		}
	}
	same(t, b, was)
}

// open: just these are in question.
func open(t *testing.T, b *Box, want ...int) {
	t.Helper()
	if l := b.All(); !slices.Equal(l, want) {
		t.Fatalf("All: %v, not %v", l, want)
	}
	for p := -3; p < 70; p++ {
		if b.Open(p) != slices.Contains(want, p) {
			t.Fatalf("Open(%d): %v", p, b.Open(p))
		}
	}
}

// yes: just these are for it.
func yes(t *testing.T, b *Box, player int, want ...int) {
	t.Helper()
	if l := b.Yes(player); !slices.Equal(l, want) {
		t.Fatalf("Yes of %d: %v, not %v", player, l, want)
	}
}

// won: a Drop of it by these, which may be done to the roster; it isn't lost.
func won(t *testing.T, b *Box, player int, want ...int) roster.Change {
	t.Helper()
	c, ok := b.Won(player)
	if !ok || !sameChange(c, roster.Change{Kind: roster.Drop, Player: player, Voters: want}) {
		t.Fatalf("Won of %d: %+v, %v", player, c, ok)
	}
	if e := b.Roster().Check(c); e != api.OK || b.Lost(player) {
		t.Fatalf("Won of %d: %+v: %d, lost %v", player, c, e, b.Lost(player))
	}
	return c
}

// notWon: nothing is won; lost, or not.
func notWon(t *testing.T, b *Box, player int, lost bool) {
	t.Helper()
	if c, ok := b.Won(player); ok || !sameChange(c, roster.Change{}) {
		t.Fatalf("Won of %d: %+v, %v", player, c, ok)
	}
	if b.Lost(player) != lost {
		t.Fatalf("Lost of %d: %v", player, b.Lost(player))
	}
}

// with: the roster behind changes that may be.
func with(t *testing.T, r roster.Roster, l ...roster.Change) roster.Roster {
	t.Helper()
	s, e := r.With(l...)
	if e != api.OK {
		t.Fatalf("With %+v: %d", l, e)
	}
	return s
}

// P19.1: the chapter's example.
func TestExample(t *testing.T) {
	b := New(roster.Of(0, 1, 2))
	asks(t, b, 2)
	says(t, b, 2, true, 0)
	notWon(t, b, 2, false)
	says(t, b, 2, true, 1)
	won(t, b, 2, 0, 1)
}

// P19.1: of its roster, and nobody is in question.
func TestNew(t *testing.T) {
	r := with(t, roster.Of(0, 1), roster.Change{Kind: roster.Join, Player: 5})
	for _, r := range []roster.Roster{{}, roster.Of(0), roster.Of(1, 2), roster.Of(upTo(32)...), r} {
		b := New(r)
		if !b.Roster().Same(r) {
			t.Errorf("Roster: %v, not %v", b.Roster().All(), r.All())
		}
		open(t, b)
		for p := -2; p < 35; p++ {
			yes(t, b, p)
			notWon(t, b, p, false)
			saysNot(t, b, 0, p, api.ErrNone)
			if b.Close(p) {
				t.Errorf("Close(%d)", p)
			}
		}
	}
}

// P19.1: who may be asked about: not the Host, not who doesn't play, not who is in question; the first error is told.
func TestAsk(t *testing.T) {
	b := New(roster.Of(0, 1, 2, 31))
	asksNot(t, b, roster.Host, api.ErrArg)
	for _, p := range []int{3, 30, 32, 33, -1, 64, math.MaxInt, math.MinInt} {
		asksNot(t, b, p, api.ErrPlayer)
	}
	asks(t, b, 31)
	open(t, b, 31)
	asks(t, b, 1)
	open(t, b, 1, 31)
	asksNot(t, b, 31, api.ErrThere)
	asksNot(t, b, 1, api.ErrThere)
	asksNot(t, b, 0, api.ErrArg)
	asksNot(t, b, 3, api.ErrPlayer)
	says(t, b, 31, true, 0)
	asksNot(t, b, 31, api.ErrThere)
	yes(t, b, 31, 0)
	yes(t, b, 1)
	asks(t, b, 2)
	open(t, b, 1, 2, 31)
	asksNot(t, New(roster.Of(1, 2)), roster.Host, api.ErrArg) // even if it doesn't play
	asksNot(t, New(roster.Roster{}), roster.Host, api.ErrArg)
	asksNot(t, New(roster.Roster{}), 1, api.ErrPlayer)
}

// P19.1: whose vote counts: of who is in question, of who plays, but itself, the first one; the first error is told.
func TestVote(t *testing.T) {
	b := New(roster.Of(0, 1, 2, 3, 31))
	asks(t, b, 3)
	for _, p := range []int{0, 1, 2, 31, 4, -1, 32, math.MaxInt, math.MinInt} {
		saysNot(t, b, 1, p, api.ErrNone)
		saysNot(t, b, p, p, api.ErrNone) // its own vote, too
		saysNot(t, b, 9, p, api.ErrNone) // of who doesn't play, too
	}
	for _, v := range []int{3, 4, 30, 32, -1, 33, math.MaxInt, math.MinInt} {
		saysNot(t, b, v, 3, api.ErrPlayer)
	}
	says(t, b, 3, true, 31)
	yes(t, b, 3, 31)
	saysNot(t, b, 31, 3, api.ErrThere)
	says(t, b, 3, false, 0)
	yes(t, b, 3, 31)
	saysNot(t, b, 0, 3, api.ErrThere)
	saysNot(t, b, 3, 3, api.ErrPlayer)
	says(t, b, 3, true, 2)
	yes(t, b, 3, 2, 31)
	notWon(t, b, 3, false)
	saysNot(t, b, 2, 3, api.ErrThere)
	says(t, b, 3, true, 1)
	yes(t, b, 3, 1, 2, 31)
	won(t, b, 3, 1, 2, 31)
	saysNot(t, b, 1, 3, api.ErrThere)
}

// P19.1: who is in question may vote on others, and each has votes of its own.
func TestVotesOfEach(t *testing.T) {
	b := New(roster.Of(0, 1, 2, 3))
	asks(t, b, 1)
	asks(t, b, 2)
	says(t, b, 1, true, 2, 0)
	says(t, b, 2, false, 1)
	yes(t, b, 1, 0, 2)
	yes(t, b, 2)
	notWon(t, b, 1, false)
	notWon(t, b, 2, true)
	says(t, b, 1, true, 3)
	won(t, b, 1, 0, 2, 3)
	notWon(t, b, 2, true)
	if !b.Close(1) {
		t.Error("Close")
	}
	open(t, b, 2)
	notWon(t, b, 1, false)
	notWon(t, b, 2, true)
}

// P19.1: votes for and against, till it is won, till it is lost, and till it is neither.
func TestWonAndLost(t *testing.T) {
	five := roster.Of(0, 1, 2, 3, 4)
	b := New(five)
	asks(t, b, 4)
	notWon(t, b, 4, false)
	says(t, b, 4, false, 1)
	notWon(t, b, 4, false)
	says(t, b, 4, true, 3, 2)
	notWon(t, b, 4, false) // 0 has the last word
	won5 := New(five)
	asks(t, won5, 4)
	says(t, won5, 4, false, 1)
	says(t, won5, 4, true, 3, 2, 0)
	won(t, won5, 4, 0, 2, 3)
	says(t, b, 4, false, 0)
	notWon(t, b, 4, true)

	lost := New(five)
	asks(t, lost, 4)
	says(t, lost, 4, false, 0)
	notWon(t, lost, 4, false)
	says(t, lost, 4, false, 3)
	notWon(t, lost, 4, true)
	says(t, lost, 4, true, 1, 2)
	notWon(t, lost, 4, true)

	four := New(roster.Of(0, 1, 2, 3)) // all three others are wanted
	asks(t, four, 1)
	says(t, four, 1, true, 0, 2)
	notWon(t, four, 1, false) // just half
	says(t, four, 1, false, 3)
	notWon(t, four, 1, true)
}

// P19.1: of two, or one, nobody can be dropped, and that is lost from the start.
func TestTooFew(t *testing.T) {
	two := New(roster.Of(0, 1))
	notWon(t, two, 1, false) // nobody is in question
	asks(t, two, 1)
	notWon(t, two, 1, true)
	says(t, two, 1, true, 0)
	notWon(t, two, 1, true)
	one := New(roster.Of(7))
	asks(t, one, 7)
	notWon(t, one, 7, true)
	saysNot(t, one, 7, 7, api.ErrPlayer)
	three := New(roster.Of(1, 2, 3))
	asks(t, three, 3)
	notWon(t, three, 3, false)
}

// P19.1: of all 32: 17 are wanted, and 15 against it are enough.
func TestAllPlay(t *testing.T) {
	b := New(roster.Of(upTo(32)...))
	asks(t, b, 31)
	says(t, b, 31, false, upTo(14)...)
	notWon(t, b, 31, false)
	for v := 30; v > 14; v-- {
		says(t, b, 31, true, v)
		notWon(t, b, 31, false)
	}
	x := New(b.Roster())
	asks(t, x, 31)
	says(t, x, 31, false, upTo(15)...)
	notWon(t, x, 31, true)
	says(t, b, 31, true, 14)
	won(t, b, 31, upTo(31)[14:]...)
}

// P19.1: who is closed was in question, and isn't any more; asked anew, it has no votes.
func TestClose(t *testing.T) {
	b := New(roster.Of(0, 1, 2, 3))
	asks(t, b, 2)
	asks(t, b, 3)
	says(t, b, 2, true, 0, 1, 3)
	says(t, b, 3, false, 0)
	for _, p := range []int{0, 1, 4, -1, 32, math.MaxInt, math.MinInt} {
		was := seen(b)
		if b.Close(p) {
			t.Errorf("Close(%d)", p)
		}
		same(t, b, was)
	}
	won(t, b, 2, 0, 1, 3)
	if !b.Close(2) || b.Close(2) {
		t.Error("Close(2)")
	}
	open(t, b, 3)
	yes(t, b, 2)
	notWon(t, b, 2, false)
	notWon(t, b, 3, true)
	saysNot(t, b, 0, 2, api.ErrNone)
	asks(t, b, 2)
	yes(t, b, 2)
	notWon(t, b, 2, false)
	says(t, b, 2, true, 0, 1)
	yes(t, b, 2, 0, 1)
	if !b.Close(3) {
		t.Error("Close(3)")
	}
	open(t, b, 2)
}

// P19.1: behind a Move who doesn't play there is in question no more; who comes back isn't, either.
func TestMoveInQuestion(t *testing.T) {
	b := New(roster.Of(0, 1, 2, 3))
	asks(t, b, 2)
	asks(t, b, 3)
	says(t, b, 3, true, 0, 1)
	b.Move(roster.Of(0, 1, 2))
	open(t, b, 2)
	yes(t, b, 3)
	notWon(t, b, 3, false)
	asksNot(t, b, 3, api.ErrPlayer)
	saysNot(t, b, 0, 3, api.ErrNone)
	if b.Close(3) {
		t.Error("Close(3)")
	}
	b.Move(roster.Of(0, 1, 2, 3))
	open(t, b, 2)
	yes(t, b, 3)
	asks(t, b, 3)
	yes(t, b, 3)
	saysNot(t, b, 3, 3, api.ErrPlayer)
	says(t, b, 3, true, 0, 1, 2)
	won(t, b, 3, 0, 1, 2)
}

// P19.1: behind a Move votes of who doesn't play there are gone, those for it and those against it; who comes back has a word again.
func TestMoveVoter(t *testing.T) {
	all := roster.Of(0, 1, 2, 3, 4, 5)
	b := New(all)
	asks(t, b, 5)
	says(t, b, 5, true, 0, 1, 2)
	says(t, b, 5, false, 3)
	notWon(t, b, 5, false)
	b.Move(roster.Of(0, 1, 4, 5)) // 2, who was for it, and 3, who was against it, go
	open(t, b, 5)
	yes(t, b, 5, 0, 1)
	notWon(t, b, 5, false)
	saysNot(t, b, 2, 5, api.ErrPlayer)
	saysNot(t, b, 3, 5, api.ErrPlayer)
	saysNot(t, b, 0, 5, api.ErrThere)
	b.Move(all)
	yes(t, b, 5, 0, 1)
	notWon(t, b, 5, false)
	says(t, b, 5, true, 3)
	says(t, b, 5, false, 2)
	yes(t, b, 5, 0, 1, 3)
	says(t, b, 5, true, 4)
	won(t, b, 5, 0, 1, 3, 4)
}

// P19.1: behind a Move other votes, and who else is in question, stay; more or less of them are wanted.
func TestMoveStays(t *testing.T) {
	b := New(roster.Of(0, 1, 2, 3, 4))
	asks(t, b, 4)
	asks(t, b, 3)
	says(t, b, 4, true, 0, 1)
	says(t, b, 3, false, 4)
	notWon(t, b, 4, false)
	b.Move(roster.Of(0, 1, 3, 4))
	yes(t, b, 4, 0, 1)
	notWon(t, b, 4, false)
	notWon(t, b, 3, true) // of four, one against it is enough
	b.Move(roster.Of(0, 1, 4))
	won(t, b, 4, 0, 1)
	open(t, b, 4)
	b.Move(roster.Of(0, 1, 2, 4, 6))
	yes(t, b, 4, 0, 1)
	notWon(t, b, 4, false)
	says(t, b, 4, true, 6)
	won(t, b, 4, 0, 1, 6)
	b.Move(roster.Of(0, 4))
	yes(t, b, 4, 0)
	notWon(t, b, 4, true)
	b.Move(roster.Of(4, 5))
	yes(t, b, 4)
	notWon(t, b, 4, true)
	b.Move(roster.Roster{})
	open(t, b)
	if !b.Roster().Same(roster.Roster{}) {
		t.Error("Roster")
	}
}

// P19.1: a Move to the same roster, or to one of the same players behind more changes, changes no vote.
func TestMoveSame(t *testing.T) {
	r := roster.Of(0, 1, 2)
	b := New(r)
	asks(t, b, 1)
	asks(t, b, 2)
	says(t, b, 2, true, 1)
	says(t, b, 1, false, 0)
	was := seen(b)
	b.Move(r)
	same(t, b, was)
	later := with(t, r, roster.Change{Kind: roster.Leave, Player: 2}, roster.Change{Kind: roster.Join, Player: 2})
	b.Move(later)
	if !b.Roster().Same(later) || b.Roster().Same(r) {
		t.Error("Roster")
	}
	was.epoch = 2
	same(t, b, was)
}

// P19.2: what is Won may be done to the roster, and behind it to the roster that is, too.
func TestWonIsDone(t *testing.T) {
	b := New(roster.Of(upTo(7)...))
	for p := 1; p < 7; p++ {
		asks(t, b, p)
	}
	for p := 6; p > 2; p-- { // the last one goes, by all others; then two are left who can't
		for v := range p {
			says(t, b, p, true, v)
		}
		b.Move(with(t, b.Roster(), won(t, b, p, upTo(p)...)))
		open(t, b, upTo(p)[1:]...)
	}
	plays := b.Roster()
	if !slices.Equal(plays.All(), []int{0, 1, 2}) || plays.Epoch() != 4 {
		t.Errorf("%v, %d", plays.All(), plays.Epoch())
	}
}

// model is a box as the chapter's words say it, and slow: all that was said, in a row.
type model struct {
	r     roster.Roster
	asked []int
	said  []ballot
}

type ballot struct {
	voter, player int
	yes           bool
}

func (m *model) by(player int, yes bool) []int {
	var l []int
	for _, x := range m.said {
		if x.player == player && x.yes == yes {
			l = append(l, x.voter)
		}
	}
	slices.Sort(l)
	return l
}

func (m *model) ask(player int) api.Errno {
	if player == 0 {
		return api.ErrArg
	}
	if !slices.Contains(m.r.All(), player) {
		return api.ErrPlayer
	}
	if slices.Contains(m.asked, player) {
		return api.ErrThere
	}
	m.asked = append(m.asked, player)
	return api.OK
}

func (m *model) vote(voter, player int, yes bool) api.Errno {
	if !slices.Contains(m.asked, player) {
		return api.ErrNone
	}
	if voter == player || !slices.Contains(m.r.All(), voter) {
		return api.ErrPlayer
	}
	if slices.ContainsFunc(m.said, func(x ballot) bool { return x.voter == voter && x.player == player }) {
		return api.ErrThere
	}
	m.said = append(m.said, ballot{voter, player, yes})
	return api.OK
}

func (m *model) close(player int) bool {
	was := slices.Contains(m.asked, player)
	m.asked = slices.DeleteFunc(m.asked, func(p int) bool { return p == player })
	m.said = slices.DeleteFunc(m.said, func(x ballot) bool { return x.player == player })
	return was
}

func (m *model) move(r roster.Roster) {
	m.r = r
	for _, p := range slices.Clone(m.asked) {
		if !slices.Contains(r.All(), p) {
			m.close(p)
		}
	}
	m.said = slices.DeleteFunc(m.said, func(x ballot) bool { return !slices.Contains(r.All(), x.voter) })
}

func (m *model) seen() sight {
	s := sight{who: m.r.All(), epoch: m.r.Epoch(), all: slices.Sorted(slices.Values(m.asked))}
	for p := -2; p < 35; p++ {
		var c roster.Change
		open, yes, half := slices.Contains(m.asked, p), m.by(p, true), float64(len(m.r.All()))/2
		won := open && float64(len(yes)) > half
		if won {
			c = roster.Change{Kind: roster.Drop, Player: p, Voters: yes}
		}
		s.open = append(s.open, open)
		s.yes = append(s.yes, yes)
		s.lost = append(s.lost, open && float64(len(m.r.All())-1-len(m.by(p, false))) <= half)
		s.won = append(s.won, won)
		s.change = append(s.change, c)
	}
	return s
}

// moved: the roster behind a change or so, or any other one.
func moved(by *rand.Rand, r roster.Roster, players int) roster.Roster {
	if by.Intn(6) == 0 {
		return roster.Of(by.Perm(players)[:by.Intn(players+1)]...)
	}
	p := by.Intn(players)
	s, e := r.With(roster.Change{Kind: roster.Join, Player: p})
	if e == api.ErrThere {
		s, _ = r.With(roster.Change{Kind: roster.Leave, Player: p})
	}
	return s
}

// lostStays: who is lost is never won without a Move: whatever was lost, and is in question still, is lost.
func lostStays(t *testing.T, was, is sight) {
	t.Helper()
	for k := range was.lost {
		if was.lost[k] && is.open[k] && (is.won[k] || !is.lost[k]) {
			t.Fatalf("%d was lost: %+v, then %+v", k-2, was, is)
		}
	}
}

// mayBeDone: what is won may be done to the roster, and isn't lost; how many are won, and how many lost.
func mayBeDone(t *testing.T, b *Box) (wins, losses int) {
	t.Helper()
	for p := -2; p < 35; p++ {
		c, won := b.Won(p)
		if won {
			wins++
			if e := b.Roster().Check(c); e != api.OK || b.Lost(p) {
				t.Fatalf("Won of %d: %+v: %d", p, c, e)
			}
		}
		if b.Lost(p) {
			losses++
		}
	}
	return wins, losses
}

// P19.1, P19.2: calls by chance against the slow model; what is won may be done, what is lost stays so.
func TestByChance(t *testing.T) {
	by := rand.New(rand.NewSource(22))
	wins, losses, told := 0, 0, map[api.Errno]int{}
	for run := range 300 {
		players := []int{2, 3, 4, 5, 8, 32}[run%6]
		m := &model{r: roster.Of(upTo(players)...)}
		b := New(m.r)
		was := m.seen()
		for range 120 {
			player, voter, yes := by.Intn(players+2)-1, by.Intn(players+2)-1, by.Intn(3) > 0
			move := false
			switch k := by.Intn(40); {
			case k < 8:
				e, want := b.Ask(player), m.ask(player)
				if e != want {
					t.Fatalf("Ask %d: %d, not %d", player, e, want)
				}
				told[e]++
			case k < 37:
				if l := b.All(); len(l) > 0 && by.Intn(5) > 0 {
					player = l[by.Intn(len(l))]
				}
				e, want := b.Vote(voter, player, yes), m.vote(voter, player, yes)
				if e != want {
					t.Fatalf("Vote of %d on %d: %d, not %d", voter, player, e, want)
				}
				told[e]++
			case k < 38:
				if ok := b.Close(player); ok != m.close(player) {
					t.Fatalf("Close(%d): %v", player, ok)
				}
				was.lost[player+2] = false // it may be asked about anew, without votes
			default:
				r := moved(by, m.r, players)
				b.Move(r)
				m.move(r)
				move = true
			}
			is := m.seen()
			same(t, b, is)
			if !move {
				lostStays(t, was, is)
			}
			was = is
			w, l := mayBeDone(t, b)
			wins, losses = wins+w, losses+l
		}
	}
	for _, e := range []api.Errno{api.OK, api.ErrArg, api.ErrPlayer, api.ErrThere, api.ErrNone} {
		if told[e] < 100 {
			t.Errorf("%d was told %d times", e, told[e])
		}
	}
	if wins < 100 || losses < 100 {
		t.Errorf("%d won, %d lost", wins, losses)
	}
}

// P19.2: whatever is said, in whatever order, of up to six players: never both, and at the end, when all have voted, one of them.
func TestOneOfBoth(t *testing.T) {
	for players := 2; players <= 6; players++ {
		for mask := range 1 << (players - 1) {
			b := New(roster.Of(upTo(players)...))
			asks(t, b, players-1)
			lost := false
			for v := range players - 1 {
				says(t, b, players-1, mask>>v&1 == 1, v)
				_, won := b.Won(players - 1)
				if is := b.Lost(players - 1); is && won || lost && !is {
					t.Fatalf("%d players, votes %b: lost %v, then %v, won %v", players, mask, lost, is, won)
				}
				lost = b.Lost(players - 1)
			}
			if _, won := b.Won(players - 1); won == lost {
				t.Fatalf("%d players, votes %b: neither, or both", players, mask)
			}
		}
	}
}

// P19.1, K3: what is answered is the asker's own.
func TestAnswered(t *testing.T) {
	b := New(roster.Of(0, 1, 2, 3))
	asks(t, b, 3)
	asks(t, b, 2)
	says(t, b, 3, true, 0, 1, 2)
	was := seen(b)
	c := won(t, b, 3, 0, 1, 2)
	d := won(t, b, 3, 0, 1, 2)
	clear(c.Voters)
	_ = append(c.Voters[:1], 9)
	if !slices.Equal(d.Voters, upTo(3)) {
		t.Errorf("%v", d.Voters)
	}
	clear(b.Yes(3))
	clear(b.All())
	same(t, b, was)
	l, all := b.Yes(3), b.All()
	b.Move(roster.Of(0, 2, 3))
	b.Close(2)
	asks(t, b, 2)
	if !slices.Equal(l, upTo(3)) || !slices.Equal(all, []int{2, 3}) || !slices.Equal(d.Voters, upTo(3)) {
		t.Errorf("%v, %v, %v", l, all, d.Voters)
	}
}

// P19.1, K3: two boxes of one roster have nothing in common.
func TestTwoBoxes(t *testing.T) {
	r := roster.Of(0, 1, 2)
	b, x := New(r), New(r)
	was := seen(x)
	asks(t, b, 2)
	says(t, b, 2, true, 0, 1)
	b.Move(roster.Of(0, 2))
	same(t, x, was)
	if !r.Same(roster.Of(0, 1, 2)) {
		t.Error("the roster that was handed in")
	}
}

// P19.1, K4: votes in another order are answered in the same way.
func TestAnyOrder(t *testing.T) {
	by := rand.New(rand.NewSource(23))
	voters := upTo(31)
	var was sight
	for run := range 50 {
		b := New(roster.Of(upTo(32)...))
		asks(t, b, 31)
		by.Shuffle(len(voters), func(i, j int) { voters[i], voters[j] = voters[j], voters[i] })
		for _, v := range voters {
			says(t, b, 31, v%3 > 0, v)
		}
		if run == 0 {
			was = seen(b)
		}
		same(t, b, was)
	}
	if !was.won[33] {
		t.Error("20 of 32 are for it")
	}
}
