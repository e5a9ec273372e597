package link

import (
	"fmt"
	"math"
	"math/rand"
	"slices"
	"strings"
	"testing"

	"cotillion/api"
	"cotillion/timer"
	"cotillion/wire"
)

const (
	size  = 200     // the most bytes of a part's text, of the chapters
	whole = 1 << 16 // the most bytes of a message
	wide  = 32      // the most numbers that are on their way
	top   = math.MaxUint32
)

// item is a part with its number, as a datagram has it.
type item struct {
	n    uint64
	text string
}

// said is what a datagram says.
type said struct {
	next, bits uint64
	parts      []item
}

// seal: the datagram that says it.
func (d said) seal() string {
	var o wire.Out
	o.Num(d.next, d.bits, uint64(len(d.parts)))
	for _, p := range d.parts {
		o.Num(p.n).Str(p.text)
	}
	return wire.Seal(o.Text())
}

func (d said) same(f said) bool {
	return d.next == f.next && d.bits == f.bits && slices.Equal(d.parts, f.parts)
}

// read: what a datagram that a link made says.
func read(t *testing.T, s string) said {
	t.Helper()
	body, e := wire.Unseal(s)
	if e != api.OK {
		t.Fatalf("Unseal: %d", e)
	}
	i := wire.Open(body)
	d := said{next: i.Num(), bits: i.Num()}
	for range i.Count(1) {
		d.parts = append(d.parts, item{i.Num(), i.Str(size + 1)})
	}
	if e := i.End(); e != api.OK || d.next > top || d.bits > top {
		t.Fatalf("a datagram of %q: %d", body, e)
	}
	return d
}

// end: a link.
func end(t *testing.T, first, most int) *Link {
	t.Helper()
	l, e := New(timer.Config{First: first, Most: most})
	if l == nil || e != api.OK {
		t.Fatalf("New: %v, %d", l, e)
	}
	return l
}

// send: messages that can be sent.
func send(t *testing.T, l *Link, all ...string) {
	t.Helper()
	for _, s := range all {
		if e := l.Send(s); e != api.OK {
			t.Fatalf("Send of %d bytes: %d", len(s), e)
		}
	}
}

// sendMany: so many messages of one part each.
func sendMany(t *testing.T, l *Link, n int) {
	t.Helper()
	for k := range n {
		send(t, l, fmt.Sprint(k))
	}
}

// gets: a datagram by which just these messages are whole.
func gets(t *testing.T, l *Link, s string, want ...string) {
	t.Helper()
	if m, e := l.Receive(s); !slices.Equal(m, want) || e != api.OK {
		t.Fatalf("Receive: %.80q, %d, not %.80q", m, e, want)
	}
}

// getsAll: datagrams, one behind the other: the messages.
func getsAll(t *testing.T, l *Link, all []string) []string {
	t.Helper()
	var got []string
	for _, s := range all {
		m, e := l.Receive(s)
		if e != api.OK {
			t.Fatalf("Receive: %d", e)
		}
		got = append(got, m...)
	}
	return got
}

// goes: the numbers of the parts that go at now.
func goes(t *testing.T, l *Link, now int) []uint64 {
	t.Helper()
	var all []uint64
	for _, s := range l.Poll(now) {
		for _, p := range read(t, s).parts {
			all = append(all, p.n)
		}
	}
	return all
}

// numbers: from, from + 1, and so on, below to.
func numbers(from, to uint64) []uint64 {
	var l []uint64
	for ; from < to; from++ {
		l = append(l, from)
	}
	return l
}

// owes: one datagram goes, without a part, with this ack, and none behind it.
func owes(t *testing.T, l *Link, now int, next, bits uint64) {
	t.Helper()
	all := l.Poll(now)
	if len(all) != 1 {
		t.Fatalf("Poll: %d datagrams", len(all))
	}
	if d := read(t, all[0]); !d.same(said{next: next, bits: bits}) {
		t.Fatalf("Poll: %v", d)
	}
	silent(t, l, now)
}

// silent: no datagram goes.
func silent(t *testing.T, l *Link, now int) {
	t.Helper()
	if all := l.Poll(now); len(all) != 0 {
		t.Fatalf("Poll of %d: %d datagrams", now, len(all))
	}
}

// counts: so much said nothing, so many messages came.
func counts(t *testing.T, l *Link, nothing, came int) {
	t.Helper()
	if n, m := l.Counts(); n != nothing || m != came {
		t.Fatalf("Counts: %d, %d, not %d, %d", n, m, nothing, came)
	}
}

// waits: so many parts wait.
func waits(t *testing.T, l *Link, want int) {
	t.Helper()
	if n := l.Waits(); n != want {
		t.Fatalf("Waits: %d, not %d", n, want)
	}
}

// text: so many bytes, no two parts of which are alike.
func text(n int) string {
	b := make([]byte, n)
	for k := range b {
		b[k] = byte(k + k/200*7 + k/5000)
	}
	return string(b)
}

// --- P15.1: each call ---

// P15.1: the chapter's example.
func TestExample(t *testing.T) {
	a, b := end(t, 3, 9), end(t, 3, 9)
	send(t, a, "a")
	l := a.Poll(0)
	if len(l) != 1 {
		t.Fatalf("Poll: %d", len(l))
	}
	gets(t, b, l[0], "a")
	l = b.Poll(0)
	if len(l) != 1 || a.Idle() {
		t.Fatalf("Poll: %d", len(l))
	}
	gets(t, a, l[0])
	if !a.Idle() || !b.Idle() {
		t.Error("Idle")
	}
	silent(t, a, 1<<40)
	silent(t, b, 1<<40)
}

// P15.1: one that is lost goes again when its first wait is over (the fifth example of the whole).
func TestLost(t *testing.T) {
	a := end(t, 3, 9)
	send(t, a, "a")
	want := said{parts: []item{{0, "\x01a"}}}.seal()
	for now := range 40 {
		l := a.Poll(now)
		if is := slices.Contains([]int{0, 3, 9, 18, 27, 36}, now); is != slices.Equal(l, []string{want}) || !is && len(l) > 0 {
			t.Errorf("Poll of %d: %d datagrams", now, len(l))
		}
	}
}

// P15.1: New: layer 14's errors, and nothing was sent.
func TestNew(t *testing.T) {
	for c, want := range map[timer.Config]api.Errno{
		{First: 1, Most: 1}: api.OK, {First: 1, Most: 1 << 20}: api.OK, {First: 1 << 20, Most: 1 << 20}: api.OK,
		{}: api.ErrArg, {First: 0, Most: 5}: api.ErrArg, {First: 6, Most: 5}: api.ErrArg,
		{First: 1, Most: 1<<20 + 1}: api.ErrArg, {First: -1, Most: -1}: api.ErrArg,
	} {
		l, e := New(c)
		if e != want || (l == nil) != (want != api.OK) {
			t.Fatalf("New of %v: %v, %d", c, l, e)
		}
		if l == nil {
			continue
		}
		if !l.Idle() {
			t.Error("Idle")
		}
		waits(t, l, 0)
		counts(t, l, 0, 0)
		silent(t, l, 0)
		silent(t, l, 1<<40)
	}
}

// P15.1: a datagram's bytes: the ack, how many parts, the number, the part as a text.
func TestDatagram(t *testing.T) {
	a := end(t, 3, 9)
	gets(t, a, wire.Seal("\x00\x00\x01\x09\x02\x01c"))
	gets(t, a, wire.Seal("\x00\x00\x00"))
	send(t, a, "", "xy", strings.Repeat("z", 201))
	want := []string{
		wire.Seal("\x00\x80\x02\x01\x00\x01\x01"),
		wire.Seal("\x00\x80\x02\x01\x01\x03\x01xy"),
		wire.Seal("\x00\x80\x02\x01\x02\xc9\x01\x00" + strings.Repeat("z", 200)),
		wire.Seal("\x00\x80\x02\x01\x03\x02\x01z"),
	}
	if l := a.Poll(0); !slices.Equal(l, want) {
		t.Errorf("Poll: %q", l)
	}
	gets(t, a, wire.Seal("\x04\x00\x01\x00\x03\x01ab"), "ab")
	if l := a.Poll(1); !slices.Equal(l, []string{wire.Seal("\x01\x80\x01\x00")}) {
		t.Errorf("Poll: %q", l)
	}
}

// P15.1: Send, of all sizes: how many parts wait, and what comes.
func TestSizes(t *testing.T) {
	for n, parts := range map[int]int{
		0: 1, 1: 1, 199: 1, 200: 1, 201: 2, 400: 2, 401: 3, 450: 3, whole - 1: 328, whole: 328,
	} {
		a, b := end(t, 3, 9), end(t, 3, 9)
		send(t, a, text(n))
		waits(t, a, parts)
		if a.Idle() {
			t.Errorf("%d bytes: Idle", n)
		}
		var got []string
		for k := 0; !a.Idle(); k++ {
			if k > 20 {
				t.Fatalf("%d bytes: no end", n)
			}
			got = append(got, getsAll(t, b, a.Poll(k))...)
			getsAll(t, a, b.Poll(k))
		}
		if !slices.Equal(got, []string{text(n)}) {
			t.Errorf("%d bytes: %d messages", n, len(got))
		}
		waits(t, a, 0)
		counts(t, a, 0, 0)
		counts(t, b, 0, 1)
	}
}

// P15.1: Send of too much: nothing changes.
func TestBig(t *testing.T) {
	a := end(t, 3, 9)
	for _, n := range []int{whole + 1, whole + 200, 2 * whole} {
		if e := a.Send(text(n)); e != api.ErrBig {
			t.Errorf("%d bytes: %d", n, e)
		}
		waits(t, a, 0)
		if !a.Idle() {
			t.Error("Idle")
		}
	}
	silent(t, a, 0)
	counts(t, a, 0, 0)
}

// P15.1: Send, up to Backlog, and beyond it.
func TestBacklog(t *testing.T) {
	if Backlog != 700 {
		t.Fatalf("Backlog: %d", Backlog)
	}
	a := end(t, 3, 9)
	sendMany(t, a, 698)
	if e := a.Send(text(401)); e != api.ErrFull { // three parts
		t.Errorf("Send of three parts: %d", e)
	}
	waits(t, a, 698)
	send(t, a, text(400)) // two: just Backlog
	waits(t, a, 700)
	for _, s := range []string{"", "x", text(300), text(whole)} {
		if e := a.Send(s); e != api.ErrFull {
			t.Errorf("Send of %d bytes: %d", len(s), e)
		}
	}
	if e := a.Send(text(whole + 1)); e != api.ErrBig { // told ahead of ErrFull
		t.Errorf("Send of too much: %d", e)
	}
	waits(t, a, 700)
	if l := goes(t, a, 0); !slices.Equal(l, numbers(0, wide)) {
		t.Fatalf("Poll: %v", l)
	}
	waits(t, a, 668)
	if e := a.Send(text(size*33 - 1)); e != api.ErrFull { // 33 parts
		t.Errorf("Send of 33 parts: %d", e)
	}
	send(t, a, text(size*32)) // those on their way don't count
	waits(t, a, 700)
	if e := a.Send(""); e != api.ErrFull {
		t.Errorf("Send: %d", e)
	}
}

// P15.1: Send of two of the longest messages: 656 parts; a third one is too much, 44 more aren't.
func TestBacklogLong(t *testing.T) {
	a := end(t, 3, 9)
	send(t, a, text(whole), text(whole))
	waits(t, a, 656)
	if e := a.Send(text(whole)); e != api.ErrFull {
		t.Errorf("Send: %d", e)
	}
	if e := a.Send(text(44*size + 1)); e != api.ErrFull {
		t.Errorf("Send of 45 parts: %d", e)
	}
	waits(t, a, 656)
	send(t, a, text(44*size))
	waits(t, a, 700)
}

// P15.1: Poll: as many as the window takes; the rest waits till the first ones are told.
func TestWindow(t *testing.T) {
	a := end(t, 100, 100)
	sendMany(t, a, 70)
	if l := goes(t, a, 0); !slices.Equal(l, numbers(0, 32)) {
		t.Fatalf("Poll: %v", l)
	}
	waits(t, a, 38)
	silent(t, a, 1)
	gets(t, a, said{next: 0, bits: 1<<31 - 1}.seal()) // all but the first one came: the window is as wide as it was
	silent(t, a, 2)
	waits(t, a, 38)
	gets(t, a, said{next: 1, bits: 0}.seal())
	if l := goes(t, a, 3); !slices.Equal(l, numbers(32, 64)) {
		t.Fatalf("Poll: %v", l)
	}
	waits(t, a, 6)
	gets(t, a, said{next: 35, bits: 0}.seal())
	if l := goes(t, a, 4); !slices.Equal(l, numbers(64, 67)) {
		t.Fatalf("Poll: %v", l)
	}
	waits(t, a, 3)
	gets(t, a, said{next: 67, bits: 0}.seal())
	if a.Idle() {
		t.Error("Idle, while parts wait")
	}
	if l := goes(t, a, 5); !slices.Equal(l, numbers(67, 70)) {
		t.Fatalf("Poll: %v", l)
	}
	waits(t, a, 0)
	if a.Idle() {
		t.Error("Idle, while parts are on their way")
	}
	gets(t, a, said{next: 70, bits: 0}.seal())
	if !a.Idle() {
		t.Error("Idle")
	}
}

// P15.1: Poll: those that are due go by their numbers, not by when they were due; those that wait go behind them.
func TestPollOrder(t *testing.T) {
	a := end(t, 4, 100)
	send(t, a, "0")
	if l := goes(t, a, 0); !slices.Equal(l, []uint64{0}) {
		t.Fatalf("Poll: %v", l)
	}
	if l := goes(t, a, 4); !slices.Equal(l, []uint64{0}) { // due at 12 then
		t.Fatalf("Poll: %v", l)
	}
	send(t, a, "1")
	if l := goes(t, a, 6); !slices.Equal(l, []uint64{1}) { // due at 10
		t.Fatalf("Poll: %v", l)
	}
	send(t, a, "2")
	if l := goes(t, a, 7); !slices.Equal(l, []uint64{2}) { // due at 11
		t.Fatalf("Poll: %v", l)
	}
	send(t, a, "3")
	if l := goes(t, a, 10); !slices.Equal(l, []uint64{1, 3}) { // due at 18, and 14
		t.Fatalf("Poll: %v", l)
	}
	send(t, a, "4", "5")
	if l := goes(t, a, 18); !slices.Equal(l, []uint64{0, 1, 2, 3, 4, 5}) {
		t.Fatalf("Poll: %v", l)
	}
	silent(t, a, 18)
}

// P15.1: Poll: what is told to have come goes no more; what isn't goes again, with the same bytes.
func TestTold(t *testing.T) {
	a := end(t, 2, 4)
	send(t, a, text(900))
	l := a.Poll(0)
	gets(t, a, said{next: 1, bits: 2}.seal()) // 0 and 3
	again := a.Poll(2)
	if !slices.Equal(again, []string{l[1], l[2], l[4]}) {
		t.Fatalf("Poll: %d datagrams", len(again))
	}
	gets(t, a, said{next: 3, bits: 0}.seal())
	if n := goes(t, a, 6); !slices.Equal(n, []uint64{4}) {
		t.Fatalf("Poll: %v", n)
	}
	gets(t, a, said{next: 5, bits: 0}.seal())
	silent(t, a, 100)
	if !a.Idle() {
		t.Error("Idle")
	}
}

// P15.1: Poll: each that goes has the ack as it is now, even if it went with another one before.
func TestAckNow(t *testing.T) {
	a := end(t, 2, 4)
	send(t, a, "0", "1")
	for _, s := range a.Poll(0) {
		if d := read(t, s); d.next != 0 || d.bits != 0 {
			t.Errorf("an ack of nothing: %v", d)
		}
	}
	gets(t, a, said{parts: []item{{0, "\x01x"}}}.seal(), "x")
	gets(t, a, said{parts: []item{{3, "\x01x"}}}.seal())
	send(t, a, "2")
	l := a.Poll(2)
	if len(l) != 3 {
		t.Fatalf("Poll: %d", len(l))
	}
	for k, s := range l {
		if d := read(t, s); !d.same(said{1, 2, []item{{uint64(k), fmt.Sprintf("\x01%d", k)}}}) {
			t.Errorf("Poll %d: %v", k, d)
		}
	}
	silent(t, a, 3) // all of these had the ack: none is owed
}

// P15.1: an ack is owed of each part that came, whatever it is, and of nothing else.
func TestOwes(t *testing.T) {
	a := end(t, 2, 4)
	silent(t, a, 0)
	gets(t, a, said{}.seal()) // no part
	silent(t, a, 0)
	gets(t, a, said{parts: []item{{0, "\x01a"}}}.seal(), "a")
	owes(t, a, 1, 1, 0)
	gets(t, a, said{parts: []item{{0, "\x01a"}}}.seal()) // old
	owes(t, a, 1, 1, 0)
	gets(t, a, said{parts: []item{{3, "\x01d"}}}.seal())
	owes(t, a, 2, 1, 2)
	gets(t, a, said{parts: []item{{3, "\x01d"}}}.seal()) // one of it waits
	owes(t, a, 2, 1, 2)
	gets(t, a, said{parts: []item{{34, "\x01z"}}}.seal()) // too far ahead
	owes(t, a, 2, 1, 2)
	gets(t, a, said{parts: []item{{33, "\x01y"}}}.seal()) // the farthest that is taken
	owes(t, a, 2, 1, 1<<31|2)
	gets(t, a, said{parts: []item{{1, ""}}}.seal()) // no part, but it came
	owes(t, a, 3, 2, 1<<30|1)
	gets(t, a, said{parts: []item{{2, "\x02"}}}.seal(), "d")
	gets(t, a, said{next: 0, bits: 0}.seal())
	owes(t, a, 3, 4, 1<<28) // of both, one ack
	if _, e := a.Receive("?"); e != api.ErrEnd {
		t.Errorf("Receive: %d", e)
	}
	if _, e := a.Receive(said{parts: []item{{4, "\x01e"}, {5, "\x01f"}}}.seal()); e != api.ErrBig {
		t.Errorf("Receive: %d", e)
	}
	silent(t, a, 3)
	counts(t, a, 4, 2)
}

// P15.1: an ack that is owed goes with what goes, and then no more; one that goes alone starts no timer.
func TestOwesWithPart(t *testing.T) {
	a := end(t, 2, 4)
	send(t, a, "x")
	gets(t, a, said{parts: []item{{0, "\x01a"}}}.seal(), "a")
	l := a.Poll(5)
	if len(l) != 1 || !read(t, l[0]).same(said{1, 0, []item{{0, "\x01x"}}}) {
		t.Fatalf("Poll: %q", l)
	}
	silent(t, a, 5)
	gets(t, a, said{parts: []item{{1, "\x01b"}}}.seal(), "b")
	l = a.Poll(7) // it is due again
	if len(l) != 1 || !read(t, l[0]).same(said{2, 0, []item{{0, "\x01x"}}}) {
		t.Fatalf("Poll: %q", l)
	}
	gets(t, a, said{next: 1, parts: []item{{2, "\x01c"}}}.seal(), "c")
	owes(t, a, 8, 3, 0)
	silent(t, a, 1000)
	if !a.Idle() {
		t.Error("Idle")
	}
}

// P15.1: an ack that is owed while a full window takes nothing goes alone.
func TestOwesFull(t *testing.T) {
	a := end(t, 50, 50)
	sendMany(t, a, 40)
	a.Poll(0)
	gets(t, a, said{parts: []item{{0, "\x01a"}}}.seal(), "a")
	owes(t, a, 1, 1, 0)
	waits(t, a, 8)
}

// P15.1: Receive: the ack of a datagram whose part can't be taken counts, and the part of one whose ack says nothing.
func TestHalves(t *testing.T) {
	a := end(t, 2, 4)
	sendMany(t, a, 4)
	a.Poll(0)
	gets(t, a, said{next: 2, parts: []item{{77, "\x01a"}}}.seal()) // too far ahead
	if l := goes(t, a, 2); !slices.Equal(l, []uint64{2, 3}) {
		t.Fatalf("Poll: %v", l)
	}
	for k, next := range []uint64{5, 6, 1000, 1<<31 - 1} { // nothing of it was sent
		gets(t, a, said{next, top, []item{{uint64(k), "\x01b"}}}.seal(), "b")
	}
	if l := goes(t, a, 6); !slices.Equal(l, []uint64{2, 3}) {
		t.Fatalf("Poll: %v", l)
	}
	gets(t, a, said{next: 1<<31 + 5, bits: top}.seal()) // below all of them, modulo 2^32
	if l := goes(t, a, 10); !slices.Equal(l, []uint64{2, 3}) {
		t.Fatalf("Poll: %v", l)
	}
	gets(t, a, said{next: 4}.seal()) // just the next number: all came
	if !a.Idle() {
		t.Error("Idle")
	}
	counts(t, a, 0, 4)
}

// P15.1: Receive: several messages at once, in their order.
func TestSeveral(t *testing.T) {
	a, b := end(t, 2, 4), end(t, 2, 4)
	all := []string{"a", text(500), "", text(200), "e"}
	send(t, a, all...)
	l := a.Poll(0)
	for _, s := range slices.Backward(l[1:]) {
		gets(t, b, s)
	}
	counts(t, b, 0, 0)
	gets(t, b, l[0], all...)
	counts(t, b, 0, 5)
	owes(t, b, 0, 7, 0)
	for _, s := range l { // each of them once more: no message comes twice
		gets(t, b, s)
	}
	counts(t, b, 0, 5)
}

// P15.1: a part that is none says nothing, and what is ahead and behind it is joined as if it weren't there.
func TestNoPart(t *testing.T) {
	a := end(t, 2, 4)
	n := uint64(0)
	for _, bad := range []string{"", "\x02", "\x02x", "x", "\xff", "\x80\x01", "\x02" + text(size)} {
		gets(t, a, said{parts: []item{{n + 2, "\x01three"}}}.seal())
		gets(t, a, said{parts: []item{{n, "\x00one"}}}.seal())
		gets(t, a, said{parts: []item{{n + 1, bad}}}.seal(), "onethree")
		n += 3
		counts(t, a, int(n)/3, int(n)/3)
	}
	gets(t, a, said{parts: []item{{n, "\x00"}}}.seal()) // empty, and not the last one: a part
	gets(t, a, said{parts: []item{{n + 1, "\x01"}}}.seal(), "")
	counts(t, a, 7, 8)
}

// P15.1: a part by which a message would be too long says nothing; a shorter one goes on.
func TestTooMuch(t *testing.T) {
	a := end(t, 2, 4)
	n := uint64(0)
	put := func(text string, want ...string) {
		t.Helper()
		gets(t, a, said{parts: []item{{n, text}}}.seal(), want...)
		n++
	}
	long := text(whole)
	for k := 0; k+size <= whole; k += size { // 327 parts: 136 bytes are left
		put("\x00" + long[k:k+size])
	}
	counts(t, a, 0, 0)
	put("\x00" + text(137))
	put("\x01" + text(137))
	put("\x01" + text(size))
	counts(t, a, 3, 0)
	put("\x00" + long[whole-136:whole-1])
	put("\x00" + "ab")
	put("\x00" + long[whole-1:])
	put("\x00")
	put("\x01x")
	counts(t, a, 5, 0)
	put("\x01", long)
	counts(t, a, 5, 1)
	put("\x01next", "next")
	counts(t, a, 5, 2)
}

// P15.1: parts that say nothing, and messages, that go out by one datagram.
func TestMixed(t *testing.T) {
	a := end(t, 2, 4)
	for k, s := range []string{"\x01b", "", "\x00c", "\x07", "\x01d", "zz", "\x01e"} {
		gets(t, a, said{parts: []item{{uint64(k + 1), s}}}.seal())
	}
	counts(t, a, 0, 0)
	gets(t, a, said{parts: []item{{0, "\x09"}}}.seal(), "b", "cd", "e")
	counts(t, a, 4, 3)
	owes(t, a, 0, 8, 0)
}

// bytes: numbers, one behind the other.
func bytes(l ...uint64) string {
	var o wire.Out
	return o.Num(l...).Text()
}

// wrong: datagrams that say nothing, each with its error.
func wrong() map[string]api.Errno {
	long := "\x01" + text(size+1) // MaxPart + 2 bytes
	one := said{parts: []item{{0, "\x01a"}}}.seal()
	return map[string]api.Errno{
		"": api.ErrEnd, "\x07": api.ErrEnd, "abcd": api.ErrEnd, one[:4]: api.ErrEnd,
		"junk!": api.ErrVersion, "\x06" + one[1:]: api.ErrVersion, "\x06\x00\x00\x00\x00": api.ErrVersion,
		"\x07\x00\x00\x00\x00": api.ErrSum, one + "\x00": api.ErrSum, one[:len(one)-1]: api.ErrSum,
		one[:len(one)-1] + "b": api.ErrSum, one[:1] + "\x00" + one[2:]: api.ErrSum,

		wire.Seal(""):                             api.ErrEnd,
		wire.Seal("\x00"):                         api.ErrEnd,
		wire.Seal("\x00\x00"):                     api.ErrEnd,
		wire.Seal("\x80"):                         api.ErrEnd,
		wire.Seal("\x00\x00\x01"):                 api.ErrEnd,
		wire.Seal("\x00\x00\x01\x00"):             api.ErrEnd,
		wire.Seal("\x00\x00\x01\x00\x01"):         api.ErrEnd,
		wire.Seal("\x00\x00\x01\x00\x03\x01a"):    api.ErrEnd,
		wire.Seal("\x80\x00\x00\x00"):             api.ErrForm, // a second spelling of 0
		wire.Seal("\x00\x80\x00\x00"):             api.ErrForm,
		wire.Seal("\x00\x00\x80\x00"):             api.ErrForm,
		wire.Seal("\x00\x00\x01\x80\x00\x01\x01"): api.ErrForm,
		wire.Seal("\x00\x00\x01\x00\x81\x00\x01"): api.ErrForm,

		said{next: top + 1}.seal():                            api.ErrBig,
		said{bits: top + 1}.seal():                            api.ErrBig,
		said{next: math.MaxUint64}.seal():                     api.ErrBig,
		said{bits: math.MaxUint64}.seal():                     api.ErrBig,
		said{next: 1 << 63}.seal():                            api.ErrBig,
		said{parts: []item{{top + 1, "\x01a"}}}.seal():        api.ErrBig,
		said{parts: []item{{math.MaxUint64, "\x01a"}}}.seal(): api.ErrBig,
		said{parts: []item{{0, long}}}.seal():                 api.ErrBig,
		said{parts: make([]item, 2)}.seal():                   api.ErrBig,
		said{parts: make([]item, 3)}.seal():                   api.ErrBig,
		wire.Seal(bytes(0, 0, 2)):                             api.ErrBig, // ahead of the parts that aren't there
		wire.Seal(bytes(0, 0, math.MaxUint64)):                api.ErrBig,
		wire.Seal(bytes(0, 0, 1, 0, size+2)):                  api.ErrBig,
		wire.Seal(bytes(0, 0, 1, 0, math.MaxUint64)):          api.ErrBig,
		wire.Seal(bytes(top + 1)):                             api.ErrBig, // ahead of all that isn't there
		wire.Seal(bytes(0, 0, 1, top+1)):                      api.ErrBig,
		wire.Seal(bytes(top+1) + "\x80\x00"):                  api.ErrBig, // ahead of a wrong number
		wire.Seal("\x80\x00" + bytes(top+1)):                  api.ErrForm,

		wire.Seal("\x00\x00\x00\x00"):                 api.ErrForm, // something is left
		wire.Seal("\x00\x00\x00\x01"):                 api.ErrForm,
		wire.Seal("\x00\x00\x00ab"):                   api.ErrForm,
		wire.Seal("\x00\x00\x01\x00\x02\x01a\x00"):    api.ErrForm,
		wire.Seal("\x00\x00\x01\x00\x02\x01ab"):       api.ErrForm,
		wire.Seal("\x01\x00\x01\x00\x02\x01a" + long): api.ErrForm,
	}
}

// P15.1, P15.4: Receive: each error of a datagram; it says nothing, which is counted, and nothing else changes.
func TestWrong(t *testing.T) {
	for s, want := range wrong() {
		a := end(t, 2, 4)
		send(t, a, "x", "y")
		a.Poll(0)
		gets(t, a, said{parts: []item{{1, "\x01b"}}}.seal())
		owes(t, a, 0, 0, 1)
		for k := range 3 {
			if m, e := a.Receive(s); m != nil || e != want {
				t.Fatalf("%.60q: %q, %d, not %d", s, m, e, want)
			}
			counts(t, a, k+1, 0)
			silent(t, a, 1)
		}
		if l := goes(t, a, 2); !slices.Equal(l, []uint64{0, 1}) { // both are on their way still
			t.Fatalf("%.60q: %v", s, l)
		}
		gets(t, a, said{next: 2, parts: []item{{0, "\x01a"}}}.seal(), "a", "b")
		owes(t, a, 2, 2, 0)
		if counts(t, a, 3, 2); !a.Idle() {
			t.Fatalf("%.60q: Idle", s)
		}
	}
}

// P15.1: Receive: the greatest numbers and the longest bytes that a datagram may have.
func TestEdges(t *testing.T) {
	a := end(t, 2, 4)
	send(t, a, "x")
	a.Poll(0)
	gets(t, a, said{next: top, bits: 0}.seal()) // below 0: nothing came
	gets(t, a, said{next: top, bits: top}.seal())
	if !a.Idle() { // its bit 0 tells of 0
		t.Error("Idle")
	}
	silent(t, a, 0)
	gets(t, a, said{next: 1, bits: top}.seal())
	gets(t, a, said{parts: []item{{top, "\x01a"}}}.seal()) // below 0: old
	owes(t, a, 1, 0, 0)
	gets(t, a, said{parts: []item{{0, "\x01" + text(size)}}}.seal(), text(size))
	gets(t, a, said{parts: []item{{1, "\x02" + text(size)}}}.seal())
	counts(t, a, 1, 1)
	gets(t, a, said{next: top, bits: top, parts: []item{{2, "\x01"}}}.seal(), "")
	owes(t, a, 1, 3, 0)
	counts(t, a, 1, 2)
}

// anyBytes: bytes that are nearly what a datagram has, or nothing like it.
func anyBytes(r *rand.Rand) string {
	b := make([]byte, r.Intn(12))
	for k := range b {
		b[k] = byte(r.Intn(1 + r.Intn(256)))
	}
	if r.Intn(4) == 0 {
		return string(b)
	}
	var o wire.Out
	for range 2 {
		o.Num(uint64(r.Intn(40)) << r.Intn(32))
	}
	if n := r.Intn(3); n > 0 {
		return o.Num(uint64(n), uint64(r.Intn(60))).Str(string(b)).Text()
	}
	return o.Num(0).Raw(string(b[:len(b)/6])).Text()
}

// P15.1: any bytes at all, sealed or not: an error and nil, or no error.
func TestAnyBytes(t *testing.T) {
	r := rand.New(rand.NewSource(15))
	a := end(t, 2, 4)
	sendMany(t, a, 50)
	bad := 0
	for now := range 5000 {
		s := anyBytes(r)
		if r.Intn(10) > 0 {
			s = wire.Seal(s)
		}
		before, _ := a.Counts()
		m, e := a.Receive(s)
		if e != api.OK {
			bad++
			if after, _ := a.Counts(); m != nil || after != before+1 {
				t.Fatalf("%q: %q, %d", s, m, e)
			}
		}
		for _, s := range a.Poll(now) {
			read(t, s)
		}
	}
	if bad < 1000 || bad > 4000 {
		t.Errorf("%d of 5000 said nothing", bad)
	}
}

// P15.1, K3: answers are the caller's.
func TestShares(t *testing.T) {
	a, b := end(t, 2, 4), end(t, 2, 4)
	send(t, a, "x", "y")
	l := a.Poll(0)
	kept := slices.Clone(l)
	again := a.Poll(2)
	l[0], l[1] = "", ""
	if !slices.Equal(again, kept) {
		t.Error("two answers share memory")
	}
	again[0], again[1] = "", ""
	gets(t, b, kept[1])
	m, _ := b.Receive(kept[0])
	if !slices.Equal(m, []string{"x", "y"}) {
		t.Fatalf("Receive: %q", m)
	}
	send(t, a, "z", "w")
	l = a.Poll(3)
	gets(t, b, l[1])
	n, _ := b.Receive(l[0])
	if m[0] = "!"; !slices.Equal(n, []string{"z", "w"}) || m[1] != "y" {
		t.Errorf("two answers share memory: %q, %q", m, n)
	}
	if l := a.Poll(6); len(l) != 4 || !read(t, l[0]).same(said{parts: []item{{0, "\x01x"}}}) {
		t.Errorf("an answer shares memory with the link: %q", l)
	}
}

// P15.1: several links have nothing in common.
func TestTwo(t *testing.T) {
	a, b := end(t, 2, 4), end(t, 2, 4)
	send(t, a, "x")
	gets(t, a, said{parts: []item{{0, "\x00a"}}}.seal())
	a.Receive("?")
	if !b.Idle() {
		t.Error("Idle")
	}
	counts(t, b, 0, 0)
	silent(t, b, 9)
	gets(t, b, said{parts: []item{{0, "\x01b"}}}.seal(), "b")
}

// --- P15.1: against a slow model ---

// model is a link as the chapters tell it: numbers stay far below 2^31.
type model struct {
	timer.Config
	waits         []string
	sent          []*mail // all of them, by their numbers
	got           map[int]string
	next          int
	open          string
	owes          bool
	nothing, came int
}

// mail is a part that was sent.
type mail struct {
	text      string
	told      bool
	due, long int
}

func (m *model) firstOnWay() int {
	return slices.IndexFunc(m.sent, func(x *mail) bool { return !x.told })
}

func (m *model) send(s string) api.Errno {
	if len(s) > whole {
		return api.ErrBig
	}
	parts := max(1, (len(s)+size-1)/size)
	if len(m.waits)+parts > 700 {
		return api.ErrFull
	}
	for k := range parts {
		if k == parts-1 {
			m.waits = append(m.waits, "\x01"+s[k*size:])
		} else {
			m.waits = append(m.waits, "\x00"+s[k*size:(k+1)*size])
		}
	}
	return api.OK
}

func (m *model) ack() said {
	d := said{next: uint64(m.next)}
	for n := range m.got {
		d.bits |= 1 << (n - m.next - 1)
	}
	return d
}

func (m *model) poll(now int) []string {
	var l []string
	add := func(n int) {
		d := m.ack()
		d.parts = []item{{uint64(n), m.sent[n].text}}
		l = append(l, d.seal())
	}
	for n, x := range m.sent {
		if !x.told && x.due <= now {
			x.long = min(2*x.long, m.Most)
			x.due = now + x.long
			add(n)
		}
	}
	for len(m.waits) > 0 {
		if f := m.firstOnWay(); f >= 0 && len(m.sent)-f >= wide {
			break
		}
		m.sent = append(m.sent, &mail{text: m.waits[0], due: now + m.First, long: m.First})
		m.waits = m.waits[1:]
		add(len(m.sent) - 1)
	}
	if len(l) == 0 && m.owes {
		l = append(l, m.ack().seal())
	}
	m.owes = false
	return l
}

// receive: of a datagram that says this.
func (m *model) receive(d said) []string {
	if next := int(int32(d.next)); next <= len(m.sent) {
		for n, x := range m.sent {
			k := n - next - 1
			if n < next || k >= 0 && k < 32 && d.bits>>k&1 == 1 {
				x.told = true
			}
		}
	}
	var l []string
	for _, p := range d.parts {
		m.owes = true
		n := int(int32(p.n))
		if _, ok := m.got[n]; ok || n < m.next || n > m.next+32 {
			continue
		}
		m.got[n] = p.text
		for {
			s, ok := m.got[m.next]
			if !ok {
				break
			}
			delete(m.got, m.next)
			m.next++
			l = append(l, m.join(s)...)
		}
	}
	m.came += len(l)
	return l
}

func (m *model) join(s string) []string {
	if s == "" || s[0] > 1 || len(m.open)+len(s)-1 > whole {
		m.nothing++
		return nil
	}
	m.open += s[1:]
	if s[0] == 0 {
		return nil
	}
	s, m.open = m.open, ""
	return []string{s}
}

func (m *model) idle() bool {
	return len(m.waits) == 0 && m.firstOnWay() < 0
}

// pair is a link and its model, that hear and tell the same.
type pair struct {
	*Link
	m *model
}

func newPair(t *testing.T, c timer.Config) pair {
	t.Helper()
	return pair{end(t, c.First, c.Most), &model{Config: c, got: map[int]string{}}}
}

func (p pair) check(t *testing.T) {
	t.Helper()
	n, m := p.Counts()
	if n != p.m.nothing || m != p.m.came || p.Waits() != len(p.m.waits) || p.Idle() != p.m.idle() {
		t.Fatalf("Counts %d, %d, Waits %d, Idle %v", n, m, p.Waits(), p.Idle())
	}
	if p.timers.Len() != p.out.Len() { // just what is on its way has a timer
		t.Fatalf("%d timers of %d", p.timers.Len(), p.out.Len())
	}
}

func (p pair) send(t *testing.T, s string) {
	t.Helper()
	if e, f := p.Send(s), p.m.send(s); e != f {
		t.Fatalf("Send of %d bytes: %d, not %d", len(s), e, f)
	}
}

func (p pair) poll(t *testing.T, now int) []string {
	t.Helper()
	l := p.Poll(now)
	if w := p.m.poll(now); !slices.Equal(l, w) {
		t.Fatalf("Poll: %d datagrams, not %d", len(l), len(w))
	}
	return l
}

func (p pair) receive(t *testing.T, s string) {
	t.Helper()
	l, e := p.Receive(s)
	if e != api.OK {
		t.Fatalf("Receive: %d", e)
	}
	if w := p.m.receive(read(t, s)); !slices.Equal(l, w) {
		t.Fatalf("Receive: %d messages, not %d", len(l), len(w))
	}
}

// anySize: how long messages are: mostly short, some of more parts than a window takes.
func anySize(r *rand.Rand) int {
	switch r.Intn(12) {
	case 0:
		return r.Intn(8000)
	case 1:
		return 200 * r.Intn(4)
	default:
		return r.Intn(500)
	}
}

// anySaid: a datagram that may be, of numbers that are near to what was sent, and far from it.
func anySaid(r *rand.Rand, p pair) said {
	near := func(n int) uint64 {
		switch r.Intn(8) {
		case 0:
			return uint64(top - r.Intn(3))
		case 1:
			return uint64(1000000 + r.Intn(1000))
		default:
			return uint64(max(0, n-40+r.Intn(80)))
		}
	}
	d := said{next: near(len(p.m.sent) - wide), bits: uint64(r.Uint32() & r.Uint32() & r.Uint32())}
	if r.Intn(3) > 0 {
		text := string([]byte{byte(r.Intn(3))}) + strings.Repeat("p", r.Intn(201))
		d.parts = []item{{near(p.m.next + 10), text[r.Intn(9)/8:]}}
	}
	return d
}

// P15.1: calls by chance, against the slow model, with datagrams of the other end and of nobody.
func TestByChance(t *testing.T) {
	r := rand.New(rand.NewSource(151))
	for range 60 {
		c := timer.Config{First: 1 + r.Intn(4)}
		c.Most = c.First + r.Intn(12)
		ends := []pair{newPair(t, c), newPair(t, c)}
		var ways [2][]string // to each end
		strange, now := r.Intn(2) == 0, 0
		for range 300 {
			k := r.Intn(2)
			p := ends[k]
			switch r.Intn(8) {
			case 0:
				p.send(t, text(anySize(r)))
			case 1, 2:
				now += r.Intn(3)
				ways[1-k] = append(ways[1-k], p.poll(t, now)...)
			case 3:
				if strange {
					p.receive(t, anySaid(r, p).seal())
				}
			default:
				if n := len(ways[k]); n > 0 {
					at := r.Intn(n)
					p.receive(t, ways[k][at])
					if r.Intn(3) > 0 {
						ways[k] = slices.Delete(ways[k], at, at+1)
					}
				}
			}
			p.check(t)
		}
	}
}

// --- P15.2, P15.3: two ends, and a way between them ---

// way is what lies between two ends: what goes to each of them, and what it does with it.
type way struct {
	r    *rand.Rand
	to   [2][]string
	loss int // of a hundred
}

// bend: a datagram of which a byte is another one, or some are lost, or more are there.
func (w *way) bend(s string) string {
	b := []byte(s)
	switch w.r.Intn(3) {
	case 0:
		b[w.r.Intn(len(b))] ^= byte(1 + w.r.Intn(255))
	case 1:
		b = b[:w.r.Intn(len(b))]
	default:
		b = append(b, byte(w.r.Intn(256)))
	}
	return string(b)
}

// put: datagrams go to an end: lost, doubled, bent, or as they are.
func (w *way) put(k int, l []string) {
	for _, s := range l {
		if w.r.Intn(100) < w.loss {
			continue
		}
		if w.r.Intn(10) == 0 {
			w.to[k] = append(w.to[k], w.bend(s))
			continue
		}
		w.to[k] = append(w.to[k], s)
		if w.r.Intn(5) == 0 {
			w.to[k] = append(w.to[k], s)
		}
	}
}

// take: any one of those that go to an end.
func (w *way) take(k int) (string, bool) {
	n := len(w.to[k])
	if n == 0 {
		return "", false
	}
	at := w.r.Intn(n)
	s := w.to[k][at]
	w.to[k] = slices.Delete(w.to[k], at, at+1)
	return s, true
}

// talk is two ends, what each was asked to send, and what came out of it.
type talk struct {
	ends      [2]*Link
	sent, got [2][]string
}

func newTalk(t *testing.T, first, most int) *talk {
	t.Helper()
	return &talk{ends: [2]*Link{end(t, first, most), end(t, first, most)}}
}

// say: an end sends something, if it can.
func (x *talk) say(k int, s string) {
	if x.ends[k].Send(s) == api.OK {
		x.sent[k] = append(x.sent[k], s)
	}
}

// hear: a datagram comes to an end: what comes out is the beginning of what the other one sent.
func (x *talk) hear(t *testing.T, k int, s string) {
	t.Helper()
	l, e := x.ends[k].Receive(s)
	if e != api.OK && l != nil {
		t.Fatalf("Receive: %q, %d", l, e)
	}
	x.got[k] = append(x.got[k], l...)
	n, all := len(x.got[k]), x.sent[1-k]
	if n > len(all) || !slices.Equal(x.got[k][n-len(l):], all[n-len(l):n]) {
		t.Fatalf("%d messages came of %d, or others", n, len(all))
	}
	if _, came := x.ends[k].Counts(); came != n {
		t.Fatalf("Counts: %d messages, not %d", came, n)
	}
}

// step: an event by chance.
func (x *talk) step(t *testing.T, w *way, now int) {
	t.Helper()
	k := w.r.Intn(2)
	switch w.r.Intn(8) {
	case 0:
		x.say(k, fmt.Sprint(now, k, text(anySize(w.r))))
	case 1:
		w.put(1-k, x.ends[k].Poll(now))
	default:
		if s, ok := w.take(k); ok {
			x.hear(t, k, s)
		}
	}
}

// P15.2: whatever is lost, comes twice, in another order, or is bent: what comes out is what was sent, in its order, each once.
func TestOrder(t *testing.T) {
	for seed := range int64(40) {
		w := &way{r: rand.New(rand.NewSource(1520 + seed)), loss: int(seed) * 2}
		x := newTalk(t, 2, 8)
		for now := range 800 {
			x.step(t, w, now/4)
		}
		if len(x.got[0])+len(x.got[1]) == 0 {
			t.Errorf("seed %d: nothing came", seed)
		}
	}
}

// rest: each end polls at each tick, and all that goes comes: how many ticks till both are idle, and nothing is owed.
func (x *talk) rest(t *testing.T, now int) int {
	t.Helper()
	for ticks := range 2000 {
		quiet := true
		for k := range 2 {
			for _, s := range x.ends[k].Poll(now + ticks) {
				quiet = false
				x.hear(t, 1-k, s)
			}
		}
		if quiet && x.ends[0].Idle() && x.ends[1].Idle() {
			return ticks
		}
	}
	t.Fatal("no end")
	return 0
}

// all: has all come?
func (x *talk) all(t *testing.T) {
	t.Helper()
	for k := range 2 {
		if !slices.Equal(x.got[k], x.sent[1-k]) {
			t.Fatalf("%d messages came of %d", len(x.got[k]), len(x.sent[1-k]))
		}
		if x.ends[k].Waits() != 0 {
			t.Fatalf("Waits: %d", x.ends[k].Waits())
		}
	}
}

// P15.3: when datagrams come through again, all that was sent comes, and both are idle, for good.
func TestLive(t *testing.T) {
	for seed := range int64(40) {
		w := &way{r: rand.New(rand.NewSource(1530 + seed)), loss: int(seed) * 5 / 2}
		x := newTalk(t, 1+w.r.Intn(4), 8)
		for now := range 600 {
			x.step(t, w, now/4)
		}
		x.rest(t, 150)
		x.all(t)
		for _, l := range x.ends {
			silent(t, l, 1<<40)
		}
		for k, s := range []string{"one", "more"} { // and so it goes on
			x.say(k, s)
		}
		x.rest(t, 1<<40)
		x.all(t)
	}
}

// P15.3: nothing comes through for long, while as much waits as can: all of it comes then.
func TestLiveFull(t *testing.T) {
	x := newTalk(t, 3, 50)
	for k := range 700 {
		x.say(k%2, fmt.Sprint(k, text(k%401)))
	}
	for now := range 500 {
		for _, l := range x.ends {
			l.Poll(now)
		}
	}
	if ticks := x.rest(t, 500); ticks < 10 || ticks > 150 {
		t.Errorf("%d ticks", ticks)
	}
	x.all(t)
}

// P15.3: one way is lost, for a while: acks alone don't come, so that all goes again and again, and comes once.
func TestLiveOneWay(t *testing.T) {
	x := newTalk(t, 1, 4)
	for k := range 50 {
		x.say(0, fmt.Sprint(k))
	}
	for now := range 40 {
		for _, s := range x.ends[0].Poll(now) {
			x.hear(t, 1, s)
		}
		x.ends[1].Poll(now)
	}
	if len(x.got[1]) != wide || x.ends[0].Idle() {
		t.Fatalf("%d messages came", len(x.got[1]))
	}
	x.rest(t, 40)
	x.all(t)
}

// --- P15.4 ---

// P15.4: of two links that hear the same, one hears also what says nothing: all else that they answer is the same.
func TestSaysNothing(t *testing.T) {
	r := rand.New(rand.NewSource(154))
	var junk []string
	for s := range wrong() {
		junk = append(junk, s)
	}
	slices.Sort(junk)
	for range 30 {
		a, b, other := end(t, 2, 8), end(t, 2, 8), end(t, 2, 8)
		heard, now := 0, 0
		var way []string
		for range 300 {
			if _, e := b.Receive(junk[r.Intn(len(junk))]); e == api.OK {
				t.Fatal("junk that says something")
			}
			heard++
			switch r.Intn(6) {
			case 0:
				s := text(anySize(r))
				if e, f := a.Send(s), b.Send(s); e != f {
					t.Fatalf("Send: %d, %d", e, f)
				}
				other.Send(s)
			case 1:
				now += r.Intn(3)
				l := a.Poll(now)
				if !slices.Equal(l, b.Poll(now)) {
					t.Fatal("Poll")
				}
				for _, s := range l {
					other.Receive(s)
				}
			case 2:
				way = append(way, other.Poll(now)...)
			default:
				if len(way) > 0 {
					k := r.Intn(len(way))
					l, e := a.Receive(way[k])
					if m, f := b.Receive(way[k]); !slices.Equal(l, m) || e != f {
						t.Fatal("Receive")
					}
					way = slices.Delete(way, k, k+1)
				}
			}
			n, m := a.Counts()
			counts(t, b, n+heard, m)
			if waits(t, b, a.Waits()); a.Idle() != b.Idle() {
				t.Fatal("Idle")
			}
		}
	}
}

// P15.4: each byte of a datagram that is another one, and each cut: it is told, and changes nothing but a count.
func TestBent(t *testing.T) {
	a, b := end(t, 2, 8), end(t, 2, 8)
	send(t, a, "hello")
	s := a.Poll(0)[0]
	nothing := 0
	for k := range len(s) {
		for _, x := range []byte{1, 128, 255} {
			bent := s[:k] + string([]byte{s[k] ^ x}) + s[k+1:]
			if m, e := b.Receive(bent); m != nil || e == api.OK {
				t.Fatalf("byte %d, %d: %q, %d", k, x, m, e)
			}
			nothing++
		}
		if m, e := b.Receive(s[:k]); m != nil || e == api.OK {
			t.Fatalf("%d bytes: %q, %d", k, m, e)
		}
		nothing++
	}
	counts(t, b, nothing, 0)
	silent(t, b, 0)
	gets(t, b, s, "hello")
	counts(t, b, nothing, 1)
}
