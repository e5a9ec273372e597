package roster

import (
	"math"
	"math/rand"
	"slices"
	"testing"

	"cotillion/api"
	"cotillion/wire"
)

// upTo: 0 to n-1.
func upTo(n int) []int {
	l := make([]int, n)
	for k := range l {
		l[k] = k
	}
	return l
}

// without: the list, but for these.
func without(l []int, gone ...int) []int {
	return slices.DeleteFunc(slices.Clone(l), func(p int) bool { return slices.Contains(gone, p) })
}

// nobodys: numbers that no player has.
func nobodys() []int {
	return []int{-1, 32, 33, 40, 63, 64, 1 << 32, math.MaxInt, -2, -32, math.MinInt}
}

// plays: just these play, behind so many changes, by each call that tells of it.
func plays(t *testing.T, r Roster, epoch int, want ...int) {
	t.Helper()
	if l := r.All(); !slices.Equal(l, want) {
		t.Fatalf("All: %v, not %v", l, want)
	}
	if r.Len() != len(want) || r.Epoch() != epoch {
		t.Fatalf("Len %d, Epoch %d, not %d, %d", r.Len(), r.Epoch(), len(want), epoch)
	}
	for p := -3; p < 70; p++ {
		if r.Has(p) != slices.Contains(want, p) {
			t.Fatalf("Has(%d): %v", p, r.Has(p))
		}
	}
}

// checks: that is Check's answer, and With's of it alone; with an error the roster is as it was.
func checks(t *testing.T, r Roster, c Change, want api.Errno) {
	t.Helper()
	if e := r.Check(c); e != want {
		t.Errorf("Check of %+v, %v play: %d, not %d", c, r.All(), e, want)
	}
	s, e := r.With(c)
	if e != want || want != api.OK && !s.Same(r) {
		t.Errorf("With %+v, %v play: %v play, %d, not %d", c, r.All(), s.All(), e, want)
	}
}

// with: behind these changes, which may be.
func with(t *testing.T, r Roster, l ...Change) Roster {
	t.Helper()
	s, e := r.With(l...)
	if e != api.OK {
		t.Fatalf("With %+v: %d", l, e)
	}
	return s
}

// changeBytes: a change as bytes, and rosterBytes a roster.
func changeBytes(c Change) string {
	var o wire.Out
	c.Put(&o)
	return o.Text()
}

func rosterBytes(r Roster) string {
	var o wire.Out
	r.Put(&o)
	return o.Text()
}

func sameChange(c, d Change) bool {
	return c.Kind == d.Kind && c.Player == d.Player && slices.Equal(c.Voters, d.Voters)
}

// P18.1: the chapter's example.
func TestExample(t *testing.T) {
	r := Of(0, 1, 2)
	s := with(t, r, Change{Kind: Drop, Player: 2, Voters: []int{0, 1}})
	plays(t, s, 1, 0, 1)
	checks(t, r, Change{Kind: Drop, Player: 2, Voters: []int{0}}, api.ErrStall)
}

// P18.1: the numbers of kinds, and of the Host.
func TestNumbers(t *testing.T) {
	if Join != 1 || Leave != 2 || Drop != 3 || Host != 0 {
		t.Errorf("%d, %d, %d, %d", Join, Leave, Drop, Host)
	}
}

// P18.1: of nobody, of some, of all; what isn't the number of a player is left out, and who is told twice plays once.
func TestOf(t *testing.T) {
	plays(t, Roster{}, 0)
	plays(t, Of(), 0)
	plays(t, Of(-1, 32), 0)
	plays(t, Of(nobodys()...), 0)
	plays(t, Of(0), 0, 0)
	plays(t, Of(31), 0, 31)
	plays(t, Of(-1, 0, 31, 32), 0, 0, 31)
	plays(t, Of(7, 3, 7, 0, 3, 3), 0, 0, 3, 7)
	plays(t, Of(append(nobodys(), 9, 5)...), 0, 5, 9)
	plays(t, Of(upTo(32)...), 0, upTo(32)...)
	plays(t, Of(append(upTo(32), upTo(40)...)...), 0, upTo(32)...)
	for p := range 32 {
		plays(t, Of(p), 0, p)
		plays(t, Of(without(upTo(32), p)...), 0, without(upTo(32), p)...)
	}
	for _, p := range nobodys() {
		if Of(upTo(32)...).Has(p) {
			t.Errorf("Has(%d)", p)
		}
	}
}

// P18.1: the least number that doesn't play; 32, false, when all do.
func TestFree(t *testing.T) {
	free := func(r Roster, want int, ok bool) {
		t.Helper()
		if n, there := r.Free(); n != want || there != ok {
			t.Errorf("Free, %v play: %d, %v", r.All(), n, there)
		}
	}
	free(Roster{}, 0, true)
	free(Of(1, 2, 3), 0, true)
	free(Of(0), 1, true)
	free(Of(0, 2), 1, true)
	free(Of(0, 1, 2, 5, 31), 3, true)
	free(Of(upTo(31)...), 31, true)
	free(Of(upTo(32)...), 32, false)
	for p := range 32 {
		free(Of(upTo(p)...), p, true)
		free(Of(without(upTo(32), p)...), p, true)
	}
}

// P18.1: voters rising, each of them playing, none of them the one, and more than half of all.
func TestMost(t *testing.T) {
	most := func(r Roster, not int, want bool, voters ...int) {
		t.Helper()
		if ok := r.Most(not, voters...); ok != want {
			t.Errorf("Most of %v but %d, %v play: %v", voters, not, r.All(), ok)
		}
	}
	four, five := Of(0, 1, 2, 3), Of(0, 2, 4, 6, 31)
	most(four, 3, true, 0, 1, 2)
	most(four, 3, false, 0, 1) // just half
	most(four, 3, false, 0, 1, 3)
	most(four, 3, false, 3, 0, 1, 2)
	most(four, 3, false, 0, 2, 1)
	most(four, 3, false, 2, 1, 0)
	most(four, 3, false, 0, 0, 1)
	most(four, 3, false, 0, 1, 1, 2) // more than half without the one that is told twice
	most(four, 3, false, 0, 1, 2, 2)
	most(four, 3, false, 0, 1, 2, 4)
	most(four, 3, false, -1, 0, 1, 2)
	most(four, 3, false, 0, 1, 2, 32)
	most(four, 3, false, math.MinInt, 0, 1, 2)
	most(four, 9, true, 0, 1, 2, 3) // one that doesn't play is none of them
	most(four, -1, true, 0, 1, 2, 3)
	most(four, -1, false, -1, 0, 1, 2)
	most(four, 0, true, 1, 2, 3)
	most(four, 0, false, 0, 1, 2)
	most(five, 2, true, 0, 4, 6)
	most(five, 2, true, 0, 4, 6, 31)
	most(five, 2, true, 4, 6, 31)
	most(five, 2, false, 4, 31)
	most(five, 2, false, 0, 1, 4)
	most(five, 2, false, 0, 4, 5)
	most(Roster{}, 0, false)
	most(Roster{}, 0, false, 0)
	most(Roster{}, 1, false, 0)
	most(Of(5), 5, false)
	most(Of(5), 5, false, 5)
	most(Of(5), 0, true, 5)
	most(Of(0, 5), 5, false, 0)
	all := Of(upTo(32)...)
	most(all, 31, false, upTo(16)...)
	most(all, 31, true, upTo(17)...)
	most(all, 31, true, upTo(31)...)
	most(all, 31, false, upTo(32)...)
	most(all, 32, true, upTo(32)...)
	most(all, 32, false, upTo(33)...)
	most(all, 16, false, upTo(17)...)
}

// ways: all lists of so many numbers from -1 to 4.
func ways(length int) [][]int {
	l := [][]int{{}}
	for range length {
		var longer [][]int
		for _, v := range l {
			for p := -1; p <= 4; p++ {
				longer = append(longer, append(slices.Clone(v), p))
			}
		}
		l = longer
	}
	return l
}

// slowMost: the chapter's words, one by one.
func slowMost(all []int, not int, voters []int) bool {
	for k, p := range voters {
		if k > 0 && p <= voters[k-1] {
			return false
		}
	}
	for _, p := range voters {
		if !slices.Contains(all, p) {
			return false
		}
	}
	return !slices.Contains(voters, not) && float64(len(voters)) > float64(len(all))/2
}

// P18.1, P18.2: all rows of up to four voters, in all rosters of players 0 to 3.
func TestMostOfAll(t *testing.T) {
	for mask := range 16 {
		all := without(upTo(4), slices.DeleteFunc(upTo(4), func(p int) bool { return mask>>p&1 == 1 })...)
		r := Of(all...)
		for length := range 5 {
			for _, v := range ways(length) {
				for not := -1; not <= 4; not++ {
					if want := slowMost(all, not, v); r.Most(not, v...) != want {
						t.Fatalf("Most of %v but %d, %v play: not %v", v, not, all, want)
					}
				}
			}
		}
	}
}

// P18.1: each error of a change; where several apply, the first one.
func TestCheck(t *testing.T) {
	r := Of(0, 1, 2, 31)
	for _, kind := range []int{0, 4, 5, -1, -2, math.MaxInt, math.MinInt} {
		checks(t, r, Change{Kind: kind, Player: 5}, api.ErrKind)
		checks(t, r, Change{Kind: kind, Player: 1}, api.ErrKind)
		checks(t, r, Change{Kind: kind, Player: 32}, api.ErrKind)
		checks(t, r, Change{Kind: kind, Player: 0}, api.ErrKind)
		checks(t, r, Change{Kind: kind, Player: 1, Voters: []int{0, 2, 31}}, api.ErrKind)
	}
	for _, p := range nobodys() {
		checks(t, r, Change{Kind: Join, Player: p}, api.ErrArg)
		checks(t, r, Change{Kind: Leave, Player: p}, api.ErrArg)
		checks(t, r, Change{Kind: Drop, Player: p}, api.ErrArg)
		checks(t, r, Change{Kind: Drop, Player: p, Voters: []int{0, 1, 2}}, api.ErrArg)
	}
	some := []int{0, 1, 2}
	checks(t, r, Change{Kind: Join, Player: 5}, api.OK)
	checks(t, r, Change{Kind: Join, Player: 5, Voters: []int{}}, api.OK)
	checks(t, r, Change{Kind: Join, Player: 5, Voters: some}, api.ErrArg)
	checks(t, r, Change{Kind: Join, Player: 1, Voters: some}, api.ErrArg) // it plays, too
	checks(t, r, Change{Kind: Join, Player: 1}, api.ErrThere)
	checks(t, r, Change{Kind: Join, Player: 0}, api.ErrThere)
	checks(t, r, Change{Kind: Join, Player: 31}, api.ErrThere)
	checks(t, r, Change{Kind: Join, Player: 30}, api.OK)
	checks(t, r, Change{Kind: Leave, Player: 1}, api.OK)
	checks(t, r, Change{Kind: Leave, Player: 31}, api.OK)
	checks(t, r, Change{Kind: Leave, Player: 31, Voters: some}, api.ErrArg)
	checks(t, r, Change{Kind: Leave, Player: 5, Voters: some}, api.ErrArg) // it doesn't play, too
	checks(t, r, Change{Kind: Leave, Player: 5}, api.ErrPlayer)
	checks(t, r, Change{Kind: Leave, Player: Host}, api.ErrArg)
	checks(t, r, Change{Kind: Drop, Player: Host, Voters: []int{1, 2, 31}}, api.ErrArg)
	checks(t, r, Change{Kind: Drop, Player: Host}, api.ErrArg)
	checks(t, r, Change{Kind: Drop, Player: 5, Voters: some}, api.ErrPlayer)
	checks(t, r, Change{Kind: Drop, Player: 5}, api.ErrPlayer) // nobody votes for it, too
	checks(t, r, Change{Kind: Drop, Player: 31, Voters: some}, api.OK)
	checks(t, r, Change{Kind: Drop, Player: 1, Voters: []int{0, 2, 31}}, api.OK)
}

// P18.1: the Host isn't always there; it may come, but neither goes nor is dropped.
func TestHost(t *testing.T) {
	r := Of(1, 2)
	checks(t, r, Change{Kind: Leave, Player: Host}, api.ErrArg)
	checks(t, r, Change{Kind: Drop, Player: Host, Voters: []int{1, 2}}, api.ErrArg)
	checks(t, r, Change{Kind: Join, Player: Host}, api.OK)
	plays(t, with(t, r, Change{Kind: Join, Player: Host}), 1, 0, 1, 2)
	checks(t, Roster{}, Change{Kind: Join, Player: Host}, api.OK)
	checks(t, Roster{}, Change{Kind: Leave, Player: 1}, api.ErrPlayer)
	checks(t, Roster{}, Change{Kind: Drop, Player: 1}, api.ErrPlayer)
	checks(t, Of(5), Change{Kind: Leave, Player: 5}, api.OK)
	plays(t, with(t, Of(5), Change{Kind: Leave, Player: 5}), 1)
}

// P18.2: nobody is dropped without the votes of more than half of those who play, none of them its own.
func TestVotes(t *testing.T) {
	drop := func(r Roster, p int, want api.Errno, voters ...int) {
		t.Helper()
		checks(t, r, Change{Kind: Drop, Player: p, Voters: voters}, want)
	}
	four := Of(0, 1, 2, 3)
	drop(four, 2, api.ErrStall)
	drop(four, 2, api.ErrStall, 0)
	drop(four, 2, api.ErrStall, 0, 1) // just half
	drop(four, 2, api.OK, 0, 1, 3)
	drop(four, 2, api.ErrStall, 0, 1, 2) // its own
	drop(four, 2, api.ErrStall, 0, 1, 2, 3)
	drop(four, 2, api.ErrStall, 0, 1, 1)
	drop(four, 2, api.ErrStall, 0, 3, 1)
	drop(four, 2, api.ErrStall, 0, 1, 4)
	drop(four, 2, api.ErrStall, -1, 0, 1)
	drop(four, 2, api.ErrStall, 0, 1, 3, 32)
	drop(Of(0, 1), 1, api.ErrStall, 0) // of two nobody is more than half
	drop(Of(0, 1), 1, api.ErrStall, 1)
	drop(Of(0, 1), 1, api.ErrStall, 0, 1)
	drop(Of(5), 5, api.ErrStall)
	drop(Of(5), 5, api.ErrStall, 5)
	all := Of(upTo(32)...)
	drop(all, 31, api.ErrStall, upTo(16)...)
	drop(all, 31, api.OK, upTo(17)...)
	drop(all, 31, api.OK, upTo(31)...)
	drop(all, 31, api.ErrStall, upTo(32)...)
}

// P18.1: change by change, each one of the roster behind those ahead of it.
func TestWith(t *testing.T) {
	r := Of(0, 1, 2)
	if s := with(t, r); !s.Same(r) {
		t.Errorf("With nothing: %v", s.All())
	}
	s := with(t, r,
		Change{Kind: Join, Player: 3},
		Change{Kind: Drop, Player: 1, Voters: []int{0, 2, 3}}, // it takes three of four
		Change{Kind: Leave, Player: 3},
		Change{Kind: Join, Player: 1},
		Change{Kind: Join, Player: 31},
	)
	plays(t, s, 5, 0, 1, 2, 31)
	plays(t, with(t, s, Change{Kind: Drop, Player: 31, Voters: []int{0, 1, 2}}), 6, 0, 1, 2)
	plays(t, with(t, r, Change{Kind: Leave, Player: 1}, Change{Kind: Join, Player: 1}), 2, 0, 1, 2)
	plays(t, r, 0, 0, 1, 2)
}

// P18.1: all come, one by one, and all but the Host go; each is one more change.
func TestAllComeAndGo(t *testing.T) {
	var come, leave []Change
	for p := range 32 {
		come = append(come, Change{Kind: Join, Player: p})
		if p != Host {
			leave = append(leave, Change{Kind: Leave, Player: p})
		}
	}
	full := with(t, Roster{}, come...)
	plays(t, full, 32, upTo(32)...)
	plays(t, with(t, full, leave...), 63, 0)
	plays(t, with(t, Roster{}, append(come, leave...)...), 63, 0)
}

// P18.1: a wrong change at the front, in the midst and at the end: its error, and the roster as it was.
func TestWithWrong(t *testing.T) {
	r := with(t, Of(0, 1, 2), Change{Kind: Join, Player: 9})
	right := []Change{{Kind: Join, Player: 3}, {Kind: Leave, Player: 9}, {Kind: Drop, Player: 2, Voters: []int{0, 1, 3}}}
	plays(t, with(t, r, right...), 4, 0, 1, 3)
	wrong := map[api.Errno]Change{
		api.ErrKind:   {Kind: 4, Player: 1},
		api.ErrArg:    {Kind: Leave, Player: Host},
		api.ErrThere:  {Kind: Join, Player: 1},
		api.ErrPlayer: {Kind: Leave, Player: 20},
		api.ErrStall:  {Kind: Drop, Player: 1, Voters: []int{0}},
	}
	for want, c := range wrong {
		for at := range len(right) + 1 {
			s, e := r.With(slices.Insert(slices.Clone(right), at, c)...)
			if e != want {
				t.Errorf("a wrong change at %d: %d, not %d", at, e, want)
			}
			plays(t, s, 1, 0, 1, 2, 9)
		}
	}
	two, e := r.With(Change{Kind: Leave, Player: 9}, Change{Kind: Leave, Player: 9}, Change{Kind: 7}) // the first error is told
	if e != api.ErrPlayer || !two.Same(r) {
		t.Errorf("%v, %d", two.All(), e)
	}
	late, e := r.With(Change{Kind: Drop, Player: 2, Voters: []int{0, 1, 9}}, Change{Kind: Drop, Player: 9, Voters: []int{0, 1, 2}}) // a voter that is gone
	if e != api.ErrStall || !late.Same(r) {
		t.Errorf("%v, %d", late.All(), e)
	}
}

// P18.1: the same play, with the same epoch.
func TestSame(t *testing.T) {
	r := Of(0, 1, 5)
	back := with(t, r, Change{Kind: Leave, Player: 5}, Change{Kind: Join, Player: 5})
	other := with(t, r, Change{Kind: Join, Player: 6}, Change{Kind: Leave, Player: 5})
	if !r.Same(Of(5, 1, 0, 0)) || !r.Same(r) || !(Roster{}).Same(Of()) {
		t.Error("unlike")
	}
	if r.Same(back) || back.Same(r) || r.Same(Of(0, 1)) || r.Same(Of(0, 1, 6)) || back.Same(other) || r.Same(Roster{}) {
		t.Error("like")
	}
	if !back.Same(with(t, r, Change{Kind: Join, Player: 31}, Change{Kind: Leave, Player: 31})) {
		t.Error("the same play behind as many changes")
	}
}

// P18.1, P18.3: the bytes, known ones.
func TestPut(t *testing.T) {
	for want, c := range map[string]Change{
		"\x00\x00\x00":             {},
		"\x01\x05\x00":             {Kind: Join, Player: 5},
		"\x02\x1f\x00":             {Kind: Leave, Player: 31},
		"\x03\x02\x02\x00\x01":     {Kind: Drop, Player: 2, Voters: []int{0, 1}},
		"\x03\x1e\x03\x1f\x07\x07": {Kind: Drop, Player: 30, Voters: []int{31, 7, 7}},
		"\x01\x05\x01\x03":         {Kind: Join, Player: 5, Voters: []int{3}}, // its bytes are told, be it as it may
	} {
		if s := changeBytes(c); s != want {
			t.Errorf("%+v: %x, not %x", c, s, want)
		}
	}
	for want, r := range map[string]Roster{
		"\x00\x00":                 {},
		"\x01\x00":                 Of(0),
		"\x0d\x00":                 Of(0, 2, 3),
		"\x80\x01\x00":             Of(7),
		"\x80\x80\x80\x80\x08\x00": Of(31),
		"\xff\xff\xff\xff\x0f\x00": Of(upTo(32)...),
		"\x03\x01":                 with(t, Of(0), Change{Kind: Join, Player: 1}),
		"\x81\x80\x80\x80\x08\x04": with(t, Of(0, 1), Change{Kind: Join, Player: 31}, Change{Kind: Join, Player: 2}, Change{Kind: Leave, Player: 1}, Change{Kind: Leave, Player: 2}),
	} {
		if s := rosterBytes(r); s != want {
			t.Errorf("%v: %x, not %x", r.All(), s, want)
		}
	}
}

// P18.1: behind bytes that are there.
func TestPutBehind(t *testing.T) {
	var o wire.Out
	o.Raw("ab")
	Change{Kind: Join, Player: 5}.Put(&o)
	o.Raw("c")
	Of(0, 1).Put(&o)
	if o.Text() != "ab\x01\x05\x00c\x03\x00" {
		t.Errorf("%x", o.Text())
	}
}

// readsChange: that is what ReadChange tells of these bytes, and bytes behind them are left; reads: likewise of Read.
func readsChange(t *testing.T, s string, want Change) {
	t.Helper()
	for _, behind := range []string{"", "\x00", "\xff\xff", "\x80\x00"} {
		i := wire.Open(s + behind)
		if c := ReadChange(i); !sameChange(c, want) || i.Err() != api.OK || i.Len() != len(behind) {
			t.Fatalf("ReadChange of %x, %x: %+v, %d, %d left", s, behind, c, i.Err(), i.Len())
		}
	}
}

func reads(t *testing.T, s string, want Roster) {
	t.Helper()
	for _, behind := range []string{"", "\x00", "\xff\xff", "\x80\x00"} {
		i := wire.Open(s + behind)
		if r := Read(i); !r.Same(want) || i.Err() != api.OK || i.Len() != len(behind) {
			t.Fatalf("Read of %x, %x: %v, %d, %d left", s, behind, r.All(), i.Err(), i.Len())
		}
	}
}

// refusesChange: that is the error of these bytes, and beside it all is zero; refuses: likewise of Read.
func refusesChange(t *testing.T, s string, want api.Errno) {
	t.Helper()
	i := wire.Open(s)
	c := ReadChange(i)
	if c.Kind != 0 || c.Player != 0 || len(c.Voters) != 0 || i.Err() != want || i.Len() != 0 {
		t.Errorf("ReadChange of %x: %+v, %d, not %d", s, c, i.Err(), want)
	}
}

func refuses(t *testing.T, s string, want api.Errno) {
	t.Helper()
	i := wire.Open(s)
	if r := Read(i); !r.Same(Roster{}) || i.Err() != want || i.Len() != 0 {
		t.Errorf("Read of %x: %v, %d, %d, not %d", s, r.All(), r.Epoch(), i.Err(), want)
	}
}

// counts: numbers as bytes.
func counts(l ...int) string {
	var o wire.Out
	return o.Count(l...).Text()
}

// P18.1: what ReadChange takes: any kind up to 3, any players, up to 32 voters in any order; whether it may be, Check says.
func TestReadChange(t *testing.T) {
	readsChange(t, "\x00\x00\x00", Change{})
	readsChange(t, "\x01\x1f\x00", Change{Kind: Join, Player: 31})
	readsChange(t, "\x02\x00\x00", Change{Kind: Leave})
	readsChange(t, "\x03\x02\x02\x00\x01", Change{Kind: Drop, Player: 2, Voters: []int{0, 1}})
	readsChange(t, "\x01\x02\x03\x1f\x00\x00", Change{Kind: Join, Player: 2, Voters: []int{31, 0, 0}})
	readsChange(t, counts(3, 4, 32)+counts(upTo(32)...), Change{Kind: Drop, Player: 4, Voters: upTo(32)})
}

// P18.1: wrong bytes of a change: cut, spelled too long, beyond the bounds; the first error is told.
func TestReadChangeWrong(t *testing.T) {
	for _, s := range []string{"\x01\x05\x00", "\x03\x02\x02\x00\x01", counts(3, 4, 32) + counts(upTo(32)...)} {
		for n := range len(s) {
			refusesChange(t, s[:n], api.ErrEnd)
		}
	}
	refusesChange(t, "\x81", api.ErrEnd)
	refusesChange(t, "\x81\x00\x05\x00", api.ErrForm)
	refusesChange(t, "\x01\x85\x00\x00", api.ErrForm)
	refusesChange(t, "\x01\x05\x80\x00", api.ErrForm)
	refusesChange(t, "\x03\x05\x01\x82\x00", api.ErrForm)
	refusesChange(t, counts(4, 5, 0), api.ErrBig)
	refusesChange(t, counts(300, 5, 0), api.ErrBig)
	refusesChange(t, counts(1, 32, 0), api.ErrBig)
	refusesChange(t, counts(3, 5, 33)+counts(upTo(33)...), api.ErrBig)
	refusesChange(t, counts(3, 5, math.MaxInt), api.ErrBig)
	refusesChange(t, counts(3, 5, 2, 0, 32), api.ErrBig)
	refusesChange(t, counts(3, 5, 2, 32, 0), api.ErrBig)
	refusesChange(t, "\xff\xff\xff\xff\xff\xff\xff\xff\xff\x01\x05\x00", api.ErrBig)
	refusesChange(t, "\xff\xff\xff\xff\xff\xff\xff\xff\xff\x02\x05\x00", api.ErrForm)
	refusesChange(t, "\x04\x85\x00", api.ErrBig) // ahead of a player that is spelled too long
	refusesChange(t, "\x04", api.ErrBig)         // and of bytes that are wanting
	refusesChange(t, "\x01\x20\x80\x00", api.ErrBig)
	refusesChange(t, "\x03\x05\x21\x80\x00", api.ErrBig)
	refusesChange(t, "\x03\x05\x02\x20", api.ErrBig)
	refusesChange(t, "\x03\x05\x02\x80\x00\x20", api.ErrForm)
}

// P18.1: what Read takes: any who play, any epoch up to 2^40.
func TestRead(t *testing.T) {
	reads(t, "\x00\x00", Roster{})
	reads(t, "\x0d\x00", Of(0, 2, 3))
	reads(t, "\x80\x80\x80\x80\x08\x00", Of(31))
	reads(t, "\xff\xff\xff\xff\x0f\x00", Of(upTo(32)...))
	reads(t, "\x03\x01", with(t, Of(0), Change{Kind: Join, Player: 1}))
	late := Read(wire.Open(counts(7, 1<<40)))
	plays(t, late, 1<<40, 0, 1, 2)
	reads(t, counts(7, 1<<40), late)
	early := Read(wire.Open(counts(7, 1<<40-1)))
	if s := with(t, early, Change{Kind: Join, Player: 3}); rosterBytes(s) != counts(15, 1<<40) {
		t.Errorf("%x", rosterBytes(s))
	}
}

// P18.1: wrong bytes of a roster: cut, spelled too long, beyond the bounds; the first error is told.
func TestReadWrong(t *testing.T) {
	for _, s := range []string{"\x0d\x05", counts(1<<32-1, 1<<40)} {
		for n := range len(s) {
			refuses(t, s[:n], api.ErrEnd)
		}
	}
	refuses(t, "\x8d\x00\x05", api.ErrForm)
	refuses(t, "\x0d\x85\x00", api.ErrForm)
	refuses(t, counts(1<<32, 5), api.ErrBig)
	refuses(t, counts(1<<32+1, 5), api.ErrBig)
	refuses(t, counts(1<<33-1, 5), api.ErrBig)
	refuses(t, counts(math.MaxInt, 5), api.ErrBig)
	refuses(t, counts(13, 1<<40+1), api.ErrBig)
	refuses(t, counts(13, math.MaxInt), api.ErrBig)
	refuses(t, counts(13)+"\xff\xff\xff\xff\xff\xff\xff\xff\xff\x01", api.ErrBig)
	refuses(t, counts(13)+"\xff\xff\xff\xff\xff\xff\xff\xff\xff\x02", api.ErrForm)
	refuses(t, counts(1<<32), api.ErrBig) // ahead of bytes that are wanting
	refuses(t, counts(1<<32)+"\x80\x00", api.ErrBig)
	refuses(t, "\x80\x00"+counts(1<<41), api.ErrForm)
}

// P18.1: an error that the reader has stays.
func TestReadBehindError(t *testing.T) {
	for _, e := range []api.Errno{api.ErrSum, api.ErrGone} {
		i, j := wire.Open("\x03\x02\x02\x00\x01"), wire.Open("\x03\x02")
		i.Fail(e)
		j.Fail(e)
		if c := ReadChange(i); !sameChange(c, Change{}) || i.Err() != e {
			t.Errorf("ReadChange: %+v, %d", c, i.Err())
		}
		if r := Read(j); !r.Same(Roster{}) || j.Err() != e {
			t.Errorf("Read: %v, %d", r.All(), j.Err())
		}
	}
}

// P18.1: one behind the other, of the same bytes.
func TestReadOneByOne(t *testing.T) {
	r := Of(0, 1, 31)
	l := []Change{{Kind: Join, Player: 2}, {Kind: Drop, Player: 31, Voters: []int{0, 1, 2}}, {Kind: Leave, Player: 1}}
	var o wire.Out
	r.Put(&o)
	for _, c := range l {
		c.Put(&o)
	}
	with(t, r, l...).Put(&o)
	i := wire.Open(o.Text())
	was := Read(i)
	var back []Change
	for range l {
		back = append(back, ReadChange(i))
	}
	if is := Read(i); !was.Same(r) || !slices.EqualFunc(back, l, sameChange) || !is.Same(with(t, was, back...)) || i.End() != api.OK {
		t.Errorf("%v, %+v, %v, %d", was.All(), back, is.All(), i.End())
	}
}

// P18.3: there and back: each kind of each player, with voters by chance; what is read is written the same.
func TestChangesThereAndBack(t *testing.T) {
	by := rand.New(rand.NewSource(18))
	for kind := range 4 {
		for p := range 32 {
			for n := range 33 {
				c := Change{Kind: kind, Player: p}
				for range n {
					c.Voters = append(c.Voters, by.Intn(32))
				}
				s := changeBytes(c)
				readsChange(t, s, c)
				if s != counts(kind, p, n)+counts(c.Voters...) || changeBytes(ReadChange(wire.Open(s))) != s {
					t.Fatalf("%+v: %x", c, s)
				}
			}
		}
	}
}

// P18.3: there and back: rosters by chance, behind changes.
func TestRostersThereAndBack(t *testing.T) {
	by := rand.New(rand.NewSource(19))
	for range 2000 {
		l := by.Perm(32)[:by.Intn(33)]
		r := Of(l...)
		for range by.Intn(300) {
			if p, ok := r.Free(); ok {
				r = with(t, r, Change{Kind: Join, Player: p})
			} else {
				r = with(t, r, Change{Kind: Leave, Player: 1 + by.Intn(31)})
			}
		}
		s := rosterBytes(r)
		reads(t, s, r)
		plays(t, Read(wire.Open(s)), r.Epoch(), r.All()...)
		sum := 0
		for _, p := range r.All() {
			sum += 1 << p
		}
		if s != counts(sum, r.Epoch()) || rosterBytes(Read(wire.Open(s))) != s {
			t.Fatalf("%v: %x", r.All(), s)
		}
	}
}

// P18.3: bytes by chance: an error, or what is written the same.
func TestReadByChance(t *testing.T) {
	by := rand.New(rand.NewSource(20))
	for range 200000 {
		b := make([]byte, by.Intn(12))
		for k := range b {
			b[k] = byte(by.Intn(40))
			if by.Intn(20) == 0 {
				b[k] = byte(by.Intn(256))
			}
		}
		s := string(b)
		i := wire.Open(s)
		if c := ReadChange(i); i.Err() == api.OK && changeBytes(c) != s[:len(s)-i.Len()] {
			t.Fatalf("ReadChange of %x: %+v", s, c)
		}
		i = wire.Open(s)
		if r := Read(i); i.Err() == api.OK && rosterBytes(r) != s[:len(s)-i.Len()] {
			t.Fatalf("Read of %x: %v", s, r.All())
		}
	}
}

// model is a roster as the chapter's words say it, and slow.
type model struct {
	play  []int // rising
	epoch int
}

func (m model) check(c Change) api.Errno {
	has := slices.Contains(m.play, c.Player)
	switch {
	case c.Kind != Join && c.Kind != Leave && c.Kind != Drop:
		return api.ErrKind
	case c.Player < 0 || c.Player > 31:
		return api.ErrArg
	case c.Player == 0 && (c.Kind == Leave || c.Kind == Drop):
		return api.ErrArg
	case c.Kind != Drop && len(c.Voters) != 0:
		return api.ErrArg
	case c.Kind == Join && has:
		return api.ErrThere
	case c.Kind != Join && !has:
		return api.ErrPlayer
	case c.Kind == Drop && !slowMost(m.play, c.Player, c.Voters):
		return api.ErrStall
	}
	return api.OK
}

func (m model) with(c Change) model {
	if c.Kind == Join {
		return model{slices.Sorted(slices.Values(append(without(m.play), c.Player))), m.epoch + 1}
	}
	return model{without(m.play, c.Player), m.epoch + 1}
}

// chance: a change, more often than not one that may be.
func chance(by *rand.Rand, r Roster) Change {
	c := Change{Kind: by.Intn(6) - 1, Player: by.Intn(34) - 1}
	if by.Intn(3) > 0 {
		c.Kind = Drop
	}
	if all := r.All(); len(all) > 0 && by.Intn(4) > 0 {
		c.Player = all[by.Intn(len(all))]
	}
	if c.Kind != Drop && by.Intn(5) > 0 {
		return c
	}
	for _, p := range r.All() {
		if by.Intn(5) > 0 && (p != c.Player || by.Intn(20) == 0) {
			c.Voters = append(c.Voters, p)
		}
	}
	if len(c.Voters) > 0 && by.Intn(5) == 0 {
		c.Voters[by.Intn(len(c.Voters))] = by.Intn(34) - 1
	}
	return c
}

// P18.1, P18.2: changes by chance against the slow model, alone and in rows.
func TestByChance(t *testing.T) {
	by := rand.New(rand.NewSource(21))
	told := map[api.Errno]int{}
	for range 400 {
		r := Of(by.Perm(32)[:by.Intn(33)]...)
		m := model{play: r.All()}
		for range 60 {
			var l []Change
			want, behind := api.OK, m
			for range by.Intn(4) {
				c := chance(by, Of(behind.play...))
				l = append(l, c)
				if want == api.OK {
					if want = behind.check(c); want == api.OK {
						behind = behind.with(c)
					}
				}
			}
			s, e := r.With(l...)
			if e != want {
				t.Fatalf("With %+v, %v play: %d, not %d", l, m.play, e, want)
			}
			if e == api.OK {
				m = behind
			}
			plays(t, s, m.epoch, m.play...)
			r = s
			told[e]++
		}
	}
	for _, e := range []api.Errno{api.OK, api.ErrKind, api.ErrArg, api.ErrThere, api.ErrPlayer, api.ErrStall} {
		if told[e] < 100 {
			t.Errorf("%d was told %d times", e, told[e])
		}
	}
}

// P18.1, K3: what is handed in isn't changed, nor kept.
func TestHandedIn(t *testing.T) {
	who := []int{5, 0, 40, 2, 2, 1}
	r := Of(who...)
	if !slices.Equal(who, []int{5, 0, 40, 2, 2, 1}) {
		t.Errorf("Of: %v", who)
	}
	clear(who)
	plays(t, r, 0, 0, 1, 2, 5)
	voters := []int{0, 1, 2}
	l := []Change{{Kind: Drop, Player: 5, Voters: voters}, {Kind: Join, Player: 7}}
	s := with(t, r, l...)
	r.Most(5, voters...)
	r.Check(l[0])
	changeBytes(l[0])
	if !slices.Equal(voters, upTo(3)) || !slices.EqualFunc(l, []Change{{Kind: Drop, Player: 5, Voters: upTo(3)}, {Kind: Join, Player: 7}}, sameChange) {
		t.Errorf("%+v", l)
	}
	clear(voters)
	clear(l)
	plays(t, s, 2, 0, 1, 2, 7)
	plays(t, r, 0, 0, 1, 2, 5)
}

// P18.1, K3: what is answered is the asker's own.
func TestAnswered(t *testing.T) {
	r := Of(0, 1, 2, 3)
	clear(r.All())
	plays(t, r, 0, 0, 1, 2, 3)
	s := "\x03\x02\x02\x00\x01"
	i := wire.Open(s + s)
	c, d := ReadChange(i), ReadChange(i)
	_ = append(c.Voters, 9)
	clear(c.Voters)
	if !slices.Equal(d.Voters, []int{0, 1}) || !slices.Equal(ReadChange(wire.Open(s)).Voters, []int{0, 1}) {
		t.Errorf("%v", d.Voters)
	}
	one, two := with(t, r, Change{Kind: Leave, Player: 3}), with(t, r, Change{Kind: Join, Player: 9})
	plays(t, one, 1, 0, 1, 2)
	plays(t, two, 1, 0, 1, 2, 3, 9)
	plays(t, r, 0, 0, 1, 2, 3)
}
