package letter

import (
	"fmt"
	"math"
	"math/rand"
	"slices"
	"strings"
	"testing"

	"cotillion/api"
	"cotillion/chunk"
	"cotillion/order"
	"cotillion/pace"
	"cotillion/record"
	"cotillion/roster"
	"cotillion/wire"
	"cotillion/world"
)

const last = 1<<40 - 1 // the greatest number of a unit

// some: one order of each kind, that may be.
func some() order.Batch {
	return order.Batch{
		{Kind: order.Move, Unit: 1, A: 1000, B: -1000},
		{Kind: order.Hit, Unit: last, A: last},
		{Kind: order.Build, A: 255, B: -1000},
		{Kind: order.Halt, Unit: 1 << 20},
	}
}

// rich: a record with one of each thing that a record says, and its bytes.
func rich() record.Record {
	return record.Record{
		Turn:    300,
		Changes: []roster.Change{{Kind: roster.Join, Player: 4}, {Kind: roster.Drop, Player: 2, Voters: []int{0, 1, 4}}},
		Pace:    pace.Pace{Ticks: 9, Delay: 2},
		Plays:   []world.Play{{Player: 0, Batch: some()[3:]}, {Player: 1}, {Player: 4}},
	}
}

const richBytes = "\xac\x02\x02\x01\x04\x00\x03\x02\x03\x00\x01\x04\x09\x02\x03\x00\x01\x04\x80\x80\x40\x00\x00\x01\x00\x04\x00"

// piece: the second one of 103 bytes, of turn 9, and its bytes.
func piece() chunk.Piece {
	return chunk.Piece{Turn: 9, Bytes: 103, Hash: 1 << 63, N: 1, Text: "abc"}
}

const pieceBytes = "\x09\x67\x80\x80\x80\x80\x80\x80\x80\x80\x80\x01\x01\x03abc"

// known is a letter, and the bytes that it has by the chapter's table.
type known struct {
	letter Letter
	bytes  string
}

// ten: one of each kind, by their kinds.
func ten() []known {
	return []known{
		{Give{Turn: 300, Batch: order.Batch{{Kind: order.Move, Unit: 1, A: 2, B: -1}}}, "\x01\xac\x02\x01\x01\x01\x04\x01"},
		{Vote{Player: 3, Yes: true}, "\x02\x03\x01"},
		{Leave{}, "\x03"},
		{Hash{Turn: 300, Sum: 128}, "\x04\xac\x02\x80\x01"},
		{Enter{}, "\x05"},
		{Ready{Turn: 300}, "\x06\xac\x02"},
		{Turn{Record: rich()}, "\x07" + richBytes},
		{Ask{Player: 31}, "\x08\x1f"},
		{Welcome{Player: 5}, "\x09\x05"},
		{Piece{Piece: piece()}, "\x0a" + pieceBytes},
	}
}

// others: of the same kinds, at the ends of what they say.
func others() []known {
	most := new(wire.Out).Count(api.MaxTurn).Text()
	return []known{
		{Give{}, "\x01\x00\x00"},
		{Give{Turn: api.MaxTurn, Batch: order.Batch{}}, "\x01" + most + "\x00"},
		{Vote{}, "\x02\x00\x00"},
		{Vote{Player: 31}, "\x02\x1f\x00"},
		{Vote{Player: 31, Yes: true}, "\x02\x1f\x01"},
		{Hash{}, "\x04\x00\x00"},
		{Hash{Turn: api.MaxTurn, Sum: math.MaxUint64}, "\x04" + most + strings.Repeat("\xff", 9) + "\x01"},
		{Ready{}, "\x06\x00"},
		{Ready{Turn: api.MaxTurn}, "\x06" + most},
		{Turn{}, "\x07\x00\x00\x00\x00\x00"},
		{Turn{Record: record.Record{Turn: api.MaxTurn, Plays: []world.Play{{Player: 31}}}}, "\x07" + most + "\x00\x00\x00\x01\x1f\x00"},
		{Ask{}, "\x08\x00"},
		{Welcome{}, "\x09\x00"},
		{Welcome{Player: 31}, "\x09\x1f"},
		{Piece{Piece: chunk.Piece{Bytes: 1, Text: "\xff"}}, "\x0a\x00\x01\x00\x00\x01\xff"},
		{Piece{Piece: chunk.Piece{Turn: api.MaxTurn, Bytes: 1, Hash: 1, Text: "x"}}, "\x0a" + most + "\x01\x01\x00\x01x"},
	}
}

func all() []known {
	return append(ten(), others()...)
}

// same: are they of one sort, and do they say the same? A list that is nil and an empty one do.
func same(l, x Letter) bool {
	return fmt.Sprintf("%T%+v", l, l) == fmt.Sprintf("%T%+v", x, x)
}

// is: these bytes are that letter.
func is(t *testing.T, s string, want Letter) {
	t.Helper()
	if l, e := Parse(s); e != api.OK || !same(l, want) {
		t.Errorf("Parse of %x: %T %+v, %d, not %T %+v", s, l, l, e, want, want)
	}
}

// refuses: these bytes are no letter, and that is why.
func refuses(t *testing.T, s string, want api.Errno) {
	t.Helper()
	if l, e := Parse(s); l != nil || e != want {
		t.Errorf("Parse of %x: %T %+v, %d, not %d", s, l, l, e, want)
	}
}

// counts: numbers as bytes.
func counts(l ...int) string {
	return new(wire.Out).Count(l...).Text()
}

// P21.1: the chapter's example.
func TestExample(t *testing.T) {
	l := Vote{Player: 3, Yes: true}
	if s := Text(l); s != "\x02\x03\x01" {
		t.Errorf("Text: %x", s)
	}
	is(t, "\x02\x03\x01", l)
}

// P21.1: each kind; what else the letter says doesn't matter.
func TestKind(t *testing.T) {
	for k, x := range ten() {
		if n := x.letter.Kind(); n != k+1 {
			t.Errorf("Kind of %T: %d", x.letter, n)
		}
	}
	for _, x := range others() {
		if n := x.letter.Kind(); n != int(x.bytes[0]) {
			t.Errorf("Kind of %+v: %d", x.letter, n)
		}
	}
	for k, l := range []Letter{Give{}, Vote{}, Leave{}, Hash{}, Enter{}, Ready{}, Turn{}, Ask{}, Welcome{}, Piece{}} {
		if n := l.Kind(); n != k+1 {
			t.Errorf("Kind of a zero %T: %d", l, n)
		}
	}
}

// P21.1: the host alone writes kinds 7 to 10; nil is none of these.
func TestFromHost(t *testing.T) {
	for k, x := range ten() {
		if FromHost(x.letter) != (k+1 >= 7) {
			t.Errorf("FromHost of %T", x.letter)
		}
	}
	for _, x := range others() {
		if FromHost(x.letter) != (x.letter.Kind() >= 7) {
			t.Errorf("FromHost of %T", x.letter)
		}
	}
	if FromHost(nil) {
		t.Error("FromHost of nil")
	}
}

// P21.1: the bytes of each kind, known ones; none of nil.
func TestText(t *testing.T) {
	for _, x := range all() {
		if s := Text(x.letter); s != x.bytes {
			t.Errorf("Text of %T %+v: %x, not %x", x.letter, x.letter, s, x.bytes)
		}
	}
	if s := Text(nil); s != "" {
		t.Errorf("Text of nil: %x", s)
	}
}

// P21.1, P21.2: each kind back, as a value of its sort.
func TestParse(t *testing.T) {
	for _, x := range all() {
		is(t, x.bytes, x.letter)
	}
}

// P21.1: no kind, kind 0, kinds above 10, and one that isn't spelled right, whatever is behind it.
func TestWrongKind(t *testing.T) {
	refuses(t, "", api.ErrEnd)
	refuses(t, "\x80", api.ErrEnd)
	refuses(t, "\x8a\x80", api.ErrEnd)
	for _, tail := range []string{"", "\x00", "\x03\x01", "\x80\x00", "\xff", richBytes, pieceBytes} {
		refuses(t, "\x00"+tail, api.ErrKind)
		for _, n := range []int{11, 12, 127, 128, 129, 256 + 3, 1<<32 + 3, math.MaxInt} {
			refuses(t, counts(n)+tail, api.ErrBig)
		}
		refuses(t, strings.Repeat("\xff", 9)+"\x01"+tail, api.ErrBig)
		refuses(t, strings.Repeat("\xff", 9)+"\x02"+tail, api.ErrForm)
		for n := range 12 {
			refuses(t, string([]byte{byte(n) | 128, 0})+tail, api.ErrForm)
		}
	}
}

// P21.1: a word on a player is 1 or 0.
func TestWord(t *testing.T) {
	is(t, "\x02\x05\x00", Vote{Player: 5})
	is(t, "\x02\x05\x01", Vote{Player: 5, Yes: true})
	for _, n := range []int{2, 3, 127, 128, 256, 257, 1 << 32, 1<<32 + 1, math.MaxInt} {
		refuses(t, "\x02\x05"+counts(n), api.ErrBig)
		refuses(t, "\x02\x05"+counts(n)+"\x00", api.ErrBig)
	}
	refuses(t, "\x02\x05\x81\x00", api.ErrForm)
	refuses(t, "\x02\x05\x80\x00", api.ErrForm)
	refuses(t, "\x02\x05", api.ErrEnd)
	refuses(t, "\x02\x05\x81", api.ErrEnd)
}

// P21.1: players 0 to 31 may be told, others may not; ahead of what is behind them.
func TestPlayers(t *testing.T) {
	for p := range 32 {
		is(t, "\x02"+counts(p, 1), Vote{Player: p, Yes: true})
		is(t, "\x08"+counts(p), Ask{Player: p})
		is(t, "\x09"+counts(p), Welcome{Player: p})
	}
	for _, kind := range []string{"\x02", "\x08", "\x09"} {
		for _, tail := range []string{"", "\x00", "\x01", "\x02", "\x80\x00"} {
			for _, p := range []int{32, 33, 63, 127, 128, 256, 1 << 32, 1<<32 + 1, math.MaxInt} {
				refuses(t, kind+counts(p)+tail, api.ErrBig)
			}
			refuses(t, kind+"\x85\x00"+tail, api.ErrForm)
		}
		refuses(t, kind, api.ErrEnd)
		refuses(t, kind+"\x85", api.ErrEnd)
	}
}

// ofTurn: the letters that tell a turn, of that one.
func ofTurn(turn int) []Letter {
	r, p := rich(), piece()
	r.Turn, p.Turn = turn, turn
	return []Letter{Give{Turn: turn, Batch: some()}, Hash{Turn: turn, Sum: 7}, Ready{Turn: turn}, Turn{Record: r}, Piece{Piece: p}}
}

// P21.1: turns 0 to 2^40 may be told, others may not; ahead of what is behind them.
func TestTurns(t *testing.T) {
	for _, turn := range []int{0, 1, 127, 128, 1 << 32, 1<<40 - 1, 1 << 40} {
		for _, l := range ofTurn(turn) {
			is(t, Text(l), l)
		}
	}
	for _, l := range ofTurn(0) {
		kind, behind := Text(l)[:1], Text(l)[2:]
		for _, tail := range []string{behind, "", "\x00", "\x80\x00", "\xff"} {
			for _, turn := range []int{1<<40 + 1, 1 << 41, 1 << 62, math.MaxInt} {
				refuses(t, kind+counts(turn)+tail, api.ErrBig)
			}
			refuses(t, kind+"\x80\x00"+tail, api.ErrForm)
			refuses(t, kind+strings.Repeat("\xff", 9)+"\x02"+tail, api.ErrForm)
			refuses(t, kind+strings.Repeat("\xff", 9)+"\x01"+tail, api.ErrBig)
		}
	}
}

// P21.1: a sum is any number of 64 bits.
func TestSum(t *testing.T) {
	for _, sum := range []uint64{0, 1, 127, 128, 1 << 40, 1<<40 + 1, 1<<63 - 1, 1 << 63, math.MaxUint64 - 1, math.MaxUint64} {
		l := Hash{Turn: 3, Sum: sum}
		s := new(wire.Out).Num(4, 3, sum).Text()
		if Text(l) != s {
			t.Errorf("Text of %+v: %x", l, Text(l))
		}
		is(t, s, l)
	}
	refuses(t, "\x04\x03"+strings.Repeat("\xff", 9)+"\x02", api.ErrForm)
	refuses(t, "\x04\x03"+strings.Repeat("\x80", 9)+"\x7f", api.ErrForm)
	refuses(t, "\x04\x03"+strings.Repeat("\xff", 10), api.ErrForm)
	refuses(t, "\x04\x03"+strings.Repeat("\xff", 9), api.ErrEnd)
	refuses(t, "\x04\x03\x80\x00", api.ErrForm)
	refuses(t, "\x04\x03", api.ErrEnd)
}

// P21.1: bytes that are cut, at every place.
func TestCut(t *testing.T) {
	for _, x := range all() {
		for n := range len(x.bytes) {
			refuses(t, x.bytes[:n], api.ErrEnd)
		}
	}
}

// P21.1: something left.
func TestLeft(t *testing.T) {
	for _, x := range all() {
		for _, behind := range []string{"\x00", "\x01", "\x80", "\x80\x00", "\xff\xff\xff", x.bytes} {
			refuses(t, x.bytes+behind, api.ErrForm)
		}
	}
}

// P21.1: the errors of a batch, as layer 9 tells them, ahead of something left.
func TestWrongBatch(t *testing.T) {
	right, kind, arg := counts(1, 1, 4, 1), counts(0, 1, 4, 1), counts(1, 0, 4, 1)
	for _, turn := range []int{0, 1 << 40} {
		front := counts(1, turn)
		for _, tail := range []string{"", "\x00", right, "\x80\x00"} {
			refuses(t, front+counts(2)+kind+tail, api.ErrKind)
			refuses(t, front+counts(2)+arg+tail, api.ErrArg)
			refuses(t, front+counts(2)+right+kind+tail, api.ErrKind)
			refuses(t, front+counts(2)+right+arg+tail, api.ErrArg)
			refuses(t, front+counts(9)+right+tail, api.ErrBig)
			refuses(t, front+counts(1, 5, 1, 4, 1)+tail, api.ErrBig)
			refuses(t, front+counts(1, 1, 1<<40+1, 4, 1)+tail, api.ErrBig)
			refuses(t, front+"\x81\x00"+right+tail, api.ErrForm)
		}
	}
}

// P21.1: the errors of a record, as layer 20 tells them, ahead of something left.
func TestWrongRecord(t *testing.T) {
	for _, tail := range []string{"", "\x00", "\x80\x00"} {
		refuses(t, "\x07"+counts(3, 9)+tail, api.ErrBig)
		refuses(t, "\x07"+counts(3, 1, 4, 1, 0)+tail, api.ErrBig)
		refuses(t, "\x07"+counts(3, 1, 1, 32, 0)+tail, api.ErrBig)
		refuses(t, "\x07"+counts(3, 0, 65, 1)+tail, api.ErrBig)
		refuses(t, "\x07"+counts(3, 0, 1, 7)+tail, api.ErrBig)
		refuses(t, "\x07"+counts(3, 0, 0, 0, 33)+tail, api.ErrBig)
		refuses(t, "\x07"+counts(3, 0, 0, 0, 1, 32)+tail, api.ErrBig)
		refuses(t, "\x07"+counts(3, 0, 0, 0, 1, 0, 1, 0, 1, 4, 1)+tail, api.ErrKind)
		refuses(t, "\x07"+counts(3, 0, 0, 0, 1, 0, 1, 1, 0, 4, 1)+tail, api.ErrArg)
		refuses(t, "\x07\x03\x80\x00"+tail, api.ErrForm)
	}
}

// P21.1: the errors of a piece, as layer 11 tells them, ahead of something left.
func TestWrongPiece(t *testing.T) {
	is(t, "\x0a"+counts(3, 1, 7, 0, 1)+"a", Piece{Piece: chunk.Piece{Turn: 3, Bytes: 1, Hash: 7, Text: "a"}})
	for _, tail := range []string{"", "\x00", "\x80\x00"} {
		refuses(t, "\x0a"+counts(3, 1<<16+1)+tail, api.ErrBig)
		refuses(t, "\x0a"+counts(3, 1, 7, 1<<16+1)+tail, api.ErrBig)
		refuses(t, "\x0a"+counts(3, 101, 7, 0, 101)+strings.Repeat("a", 101)+tail, api.ErrBig)
		refuses(t, "\x0a"+counts(3, 0, 7, 0, 0)+tail, api.ErrBig)      // a snapshot of no bytes
		refuses(t, "\x0a"+counts(3, 1, 7, 1, 1)+"a"+tail, api.ErrForm) // no such piece
		refuses(t, "\x0a"+counts(3, 1, 7, 0, 0)+tail, api.ErrForm)     // another length
		refuses(t, "\x0a"+counts(3, 1, 7, 0, 2)+"ab"+tail, api.ErrForm)
		refuses(t, "\x0a"+counts(3)+"\x81\x00"+tail, api.ErrForm)
	}
}

// anyOrder: one that may be.
func anyOrder(by *rand.Rand) order.Order {
	id, place := 1+by.Int63n(last)>>by.Intn(40), by.Int63n(2001)-1000
	switch by.Intn(4) {
	case 0:
		return order.Order{Kind: order.Move, Unit: id, A: place, B: by.Int63n(2001) - 1000}
	case 1:
		return order.Order{Kind: order.Hit, Unit: id, A: 1 + by.Int63n(last)>>by.Intn(40)}
	case 2:
		return order.Order{Kind: order.Build, A: by.Int63n(256), B: place}
	}
	return order.Order{Kind: order.Halt, Unit: id}
}

func anyBatch(by *rand.Rand) order.Batch {
	b := make(order.Batch, by.Intn(9))
	for k := range b {
		b[k] = anyOrder(by)
	}
	return b
}

// anyRecord: one that may be, behind a roster of who plays in it.
func anyRecord(by *rand.Rand, turn int) record.Record {
	r := record.Record{Turn: turn}
	if by.Intn(2) == 0 {
		r.Pace = pace.Pace{Ticks: 1 + by.Intn(64), Delay: 1 + by.Intn(6)}
	}
	for p := range 32 {
		if by.Intn(4) == 0 {
			r.Plays = append(r.Plays, world.Play{Player: p, Batch: anyBatch(by)})
		}
	}
	for range by.Intn(5) {
		voters := by.Perm(32)[:by.Intn(33)]
		r.Changes = append(r.Changes, roster.Change{Kind: roster.Drop, Player: by.Intn(32), Voters: voters})
	}
	return r
}

// anyPiece: one that may be.
func anyPiece(by *rand.Rand, turn int) chunk.Piece {
	b := make([]byte, 1+by.Intn(1<<(1+by.Intn(10))))
	by.Read(b)
	l := chunk.Split(turn, string(b))
	return l[by.Intn(len(l))]
}

// anyLetter: one of that kind, that may be.
func anyLetter(by *rand.Rand, kind int) Letter {
	turn, player := int(by.Int63n(1<<40+1)>>by.Intn(41)), by.Intn(32)
	switch kind {
	case 1:
		return Give{Turn: turn, Batch: anyBatch(by)}
	case 2:
		return Vote{Player: player, Yes: by.Intn(2) == 0}
	case 3:
		return Leave{}
	case 4:
		return Hash{Turn: turn, Sum: by.Uint64() >> by.Intn(64)}
	case 5:
		return Enter{}
	case 6:
		return Ready{Turn: turn}
	case 7:
		return Turn{Record: anyRecord(by, turn)}
	case 8:
		return Ask{Player: player}
	case 9:
		return Welcome{Player: player}
	}
	return Piece{Piece: anyPiece(by, turn)}
}

// P21.2: there and back: letters of each kind by chance; what is read is written the same.
func TestThereAndBack(t *testing.T) {
	by := rand.New(rand.NewSource(211))
	for n := range 20000 {
		kind := n%10 + 1
		l := anyLetter(by, kind)
		s := Text(l)
		x, e := Parse(s)
		if e != api.OK || !same(x, l) || x.Kind() != kind || Text(x) != s || FromHost(x) != (kind > 6) {
			t.Fatalf("%T %+v: %x, %T %+v, %d", l, l, s, x, x, e)
		}
	}
}

// P21.2: bytes by chance, and those of letters with some of them bent: an error and nil, or what is written the same.
func TestBytesByChance(t *testing.T) {
	by := rand.New(rand.NewSource(212))
	told := map[api.Errno]int{}
	for range 200000 {
		b := make([]byte, by.Intn(12))
		for k := range b {
			b[k] = byte(by.Intn(12))
		}
		if by.Intn(2) == 0 {
			b = []byte(Text(anyLetter(by, 1+by.Intn(10))))
		}
		for range by.Intn(3) {
			if len(b) > 0 {
				b[by.Intn(len(b))] = byte(by.Intn(256))
			}
		}
		s := string(b)
		l, e := Parse(s)
		if (e == api.OK) != (l != nil) || l != nil && (Text(l) != s || l.Kind() != int(b[0])) {
			t.Fatalf("Parse of %x: %T %+v, %d", s, l, l, e)
		}
		told[e]++
	}
	for _, e := range []api.Errno{api.OK, api.ErrEnd, api.ErrForm, api.ErrBig, api.ErrArg, api.ErrKind} {
		if told[e] < 100 {
			t.Errorf("%d was told %d times", e, told[e])
		}
	}
}

// mess: all that the lists of a record have is another one, in the memory in which it stands.
func mess(r record.Record) {
	for k := range r.Changes {
		clear(r.Changes[k].Voters[:cap(r.Changes[k].Voters)])
	}
	clear(r.Changes[:cap(r.Changes)])
	for k := range r.Plays {
		clear(r.Plays[k].Batch[:cap(r.Plays[k].Batch)])
	}
	clear(r.Plays[:cap(r.Plays)])
}

// P21.1, K3: what is handed in isn't changed, nor kept.
func TestHandedIn(t *testing.T) {
	b, r := some(), rich()
	give, turn := Give{Turn: 2, Batch: b}, Turn{Record: r}
	s, x := Text(give), Text(turn)
	FromHost(give)
	FromHost(turn)
	if !slices.Equal(b, some()) || !same(turn, Turn{Record: rich()}) {
		t.Errorf("%+v, %+v", give, turn)
	}
	clear(b)
	mess(r)
	is(t, s, Give{Turn: 2, Batch: some()})
	is(t, x, Turn{Record: rich()})
}

// P21.1, K3: what is answered is the asker's own.
func TestAnswered(t *testing.T) {
	s, x := Text(Give{Turn: 2, Batch: some()}), Text(Turn{Record: rich()})
	one, _ := Parse(s)
	two, _ := Parse(s)
	b := one.(Give).Batch
	clear(b[:cap(b)])
	if !same(two, Give{Turn: 2, Batch: some()}) {
		t.Errorf("%+v", two)
	}
	is(t, s, two)
	one, _ = Parse(x)
	two, _ = Parse(x)
	mess(one.(Turn).Record)
	if !same(two, Turn{Record: rich()}) {
		t.Errorf("%+v", two)
	}
	is(t, x, two)
}

// P21.1, K4: the same calls are answered in the same way.
func TestAgain(t *testing.T) {
	for range 3 {
		for _, x := range all() {
			if Text(x.letter) != x.bytes {
				t.Errorf("Text of %+v: %x", x.letter, Text(x.letter))
			}
			is(t, x.bytes, x.letter)
			refuses(t, x.bytes+"\x00", api.ErrForm)
		}
		refuses(t, "\x00", api.ErrKind)
	}
}
