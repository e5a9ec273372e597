package frag

import (
	"math/rand"
	"slices"
	"strings"
	"testing"

	"cotillion/api"
)

const (
	size  = 200     // the most bytes of a part, of the chapter
	whole = 1 << 16 // the most bytes of a message
)

// text: so many bytes, no two parts of which are alike.
func text(n int) string {
	b := make([]byte, n)
	for k := range b {
		b[k] = byte(k + k/200*7 + k/5000)
	}
	return string(b)
}

// cut: the parts of a message that has some.
func cut(t *testing.T, s string) []Part {
	t.Helper()
	l, e := Cut(s)
	if e != api.OK {
		t.Fatalf("Cut of %d bytes: %d", len(s), e)
	}
	return l
}

// isOpen: are just so many parts, and bytes, there?
func isOpen(t *testing.T, j *Join, parts, bytes int) {
	t.Helper()
	if n, b := j.Open(); n != parts || b != bytes {
		t.Fatalf("Open: %d, %d, not %d, %d", n, b, parts, bytes)
	}
}

// goes: a part that is taken, and ends no message.
func goes(t *testing.T, j *Join, p Part) {
	t.Helper()
	if s, ok, e := j.Put(p); s != "" || ok || e != api.OK {
		t.Fatalf("Put of %d bytes: %d bytes, %v, %d", len(p.Text), len(s), ok, e)
	}
}

// ends: a part by which this message is whole.
func ends(t *testing.T, j *Join, p Part, want string) {
	t.Helper()
	if s, ok, e := j.Put(p); s != want || !ok || e != api.OK {
		t.Fatalf("Put of the last %d bytes: %d bytes, %v, %d", len(p.Text), len(s), ok, e)
	}
	isOpen(t, j, 0, 0)
}

// tooBig: a part that isn't taken, by which nothing changes.
func tooBig(t *testing.T, j *Join, p Part) {
	t.Helper()
	parts, bytes := j.Open()
	if s, ok, e := j.Put(p); s != "" || ok || e != api.ErrBig {
		t.Fatalf("Put of %d bytes: %d bytes, %v, %d", len(p.Text), len(s), ok, e)
	}
	isOpen(t, j, parts, bytes)
}

// fill: a join in which so many bytes are, in as few parts as can be, none of them the last one.
func fill(t *testing.T, s string) *Join {
	t.Helper()
	j := new(Join)
	for s != "" {
		n := min(size, len(s))
		goes(t, j, Part{Text: s[:n]})
		s = s[n:]
	}
	return j
}

// --- parts ---

// P12.1: the chapter's example.
func TestExample(t *testing.T) {
	var sizes []int
	for _, p := range cut(t, text(450)) {
		sizes = append(sizes, len(p.Text))
	}
	if !slices.Equal(sizes, []int{200, 200, 50}) {
		t.Errorf("%v", sizes)
	}
}

// P12.1: Cut, at the ends of parts: as few as can be, one at least, and the last one alone says so.
func TestCut(t *testing.T) {
	for n, sizes := range map[int][]int{
		0: {0}, 1: {1}, 2: {2}, 199: {199}, 200: {200}, 201: {200, 1}, 399: {200, 199},
		400: {200, 200}, 401: {200, 200, 1}, 450: {200, 200, 50}, 600: {200, 200, 200},
	} {
		s := text(n)
		var want []Part
		for _, k := range sizes {
			want = append(want, Part{Text: s[:k]})
			s = s[k:]
		}
		want[len(want)-1].Last = true
		if l := cut(t, text(n)); !slices.Equal(l, want) {
			t.Errorf("%d bytes: %v", n, l)
		}
	}
}

// P12.1: Cut, of the most bytes that a message has, and of fewer and more.
func TestCutBig(t *testing.T) {
	for n, want := range map[int]int{whole - 137: 327, whole - 136: 327, whole - 135: 328, whole - 1: 328, whole: 328} {
		l := cut(t, text(n))
		if len(l) != want {
			t.Errorf("%d bytes: %d parts, not %d", n, len(l), want)
		}
		var all strings.Builder
		for k, p := range l {
			if p.Last != (k == want-1) || len(p.Text) != size && !p.Last {
				t.Fatalf("%d bytes: part %d: %v, %d bytes", n, k, p.Last, len(p.Text))
			}
			all.WriteString(p.Text)
		}
		if all.String() != text(n) {
			t.Errorf("%d bytes: others", n)
		}
	}
	for _, n := range []int{whole + 1, whole + 64, whole + 200, 2 * whole, 1 << 20} {
		if l, e := Cut(text(n)); l != nil || e != api.ErrBig {
			t.Errorf("%d bytes: %d parts, %d", n, len(l), e)
		}
	}
}

// P12.1, K3: what Cut answers is the caller's.
func TestCutShares(t *testing.T) {
	s := text(450)
	l := cut(t, s)
	l[0] = Part{Last: true, Text: "z"}
	if k := cut(t, s); k[0] != (Part{Text: s[:200]}) {
		t.Error("two answers share memory")
	}
}

// P12.1: Bytes, whatever the text is: no limit holds of it.
func TestBytes(t *testing.T) {
	for _, s := range []string{"", "a", "\x00", "\x01", "\x00\xff", "é\xc3", text(199), text(200), text(201), text(whole + 1)} {
		if b := (Part{Text: s}).Bytes(); b != string(append([]byte{0}, s...)) {
			t.Errorf("%d bytes: %d", len(s), len(b))
		}
		if b := (Part{Last: true, Text: s}).Bytes(); b != string(append([]byte{1}, s...)) {
			t.Errorf("%d bytes, the last one: %d", len(s), len(b))
		}
	}
}

// P12.1: Parse, with each first byte.
func TestParse(t *testing.T) {
	for b := range 256 {
		for _, s := range []string{"", "a", "\x00\x01\xff", text(199), text(200)} {
			p, e := Parse(string([]byte{byte(b)}) + s)
			want, err := Part{Last: b == 1, Text: s}, api.OK
			if b > 1 {
				want, err = Part{}, api.ErrForm
			}
			if p != want || e != err {
				t.Errorf("byte %d, %d behind it: %+v, %d", b, len(s), p, e)
			}
		}
	}
}

// P12.1: what Parse doesn't take, and which error is told of several.
func TestParseErrors(t *testing.T) {
	for s, want := range map[string]api.Errno{
		"":                         api.ErrEnd,
		"\x02":                     api.ErrForm,
		"\xff":                     api.ErrForm,
		"1a":                       api.ErrForm,
		"\x00" + text(201):         api.ErrBig,
		"\x01" + text(201):         api.ErrBig,
		"\x01" + text(whole):       api.ErrBig,
		"\x02" + text(201):         api.ErrForm,
		"\x80" + text(whole) + "a": api.ErrForm,
	} {
		if p, e := Parse(s); p != (Part{}) || e != want {
			t.Errorf("%d bytes: %+v, %d, not %d", len(s), p, e, want)
		}
	}
}

// P12.1: Bytes and Parse are each other's way back.
func TestThereAndBack(t *testing.T) {
	r := rand.New(rand.NewSource(12))
	for range 3000 {
		b := make([]byte, r.Intn(size+1))
		r.Read(b)
		p := Part{Last: r.Intn(2) == 0, Text: string(b)}
		if q, e := Parse(p.Bytes()); q != p || e != api.OK {
			t.Fatalf("%+v: %+v, %d", p, q, e)
		}
		b = make([]byte, r.Intn(size+20))
		r.Read(b)
		if len(b) > 0 && r.Intn(4) > 0 {
			b[0] %= 3
		}
		if p, e := Parse(string(b)); e == api.OK && p.Bytes() != string(b) {
			t.Fatalf("%q: %+v", b, p)
		}
	}
}

// --- join ---

// P12.1: the zero join has no part; parts come behind those that are there, empty ones too.
func TestPut(t *testing.T) {
	var j Join
	isOpen(t, &j, 0, 0)
	goes(t, &j, Part{Text: "ab"})
	isOpen(t, &j, 1, 2)
	goes(t, &j, Part{})
	isOpen(t, &j, 2, 2)
	goes(t, &j, Part{Text: "c"})
	isOpen(t, &j, 3, 3)
	ends(t, &j, Part{Last: true, Text: "de"}, "abcde")
}

// P12.1: last parts of no bytes and of 200, alone and behind others.
func TestPutLast(t *testing.T) {
	var j Join
	ends(t, &j, Part{Last: true}, "")
	ends(t, &j, Part{Last: true, Text: text(200)}, text(200))
	goes(t, &j, Part{})
	ends(t, &j, Part{Last: true}, "")
	goes(t, &j, Part{Text: text(200)})
	ends(t, &j, Part{Last: true}, text(200))
	goes(t, &j, Part{Text: text(400)[:200]})
	ends(t, &j, Part{Last: true, Text: text(400)[200:]}, text(400))
	goes(t, &j, Part{Text: "x"})
	ends(t, &j, Part{Last: true, Text: "y"}, "xy")
}

// P12.1: a part of more than 200 bytes is too big, wherever it comes, and nothing changes.
func TestPutLongPart(t *testing.T) {
	for _, n := range []int{201, 202, 400, whole, whole + 1} {
		for _, last := range []bool{false, true} {
			var j Join
			tooBig(t, &j, Part{Last: last, Text: text(n)})
			goes(t, &j, Part{Text: "a"})
			tooBig(t, &j, Part{Last: last, Text: text(n)})
			goes(t, &j, Part{Text: text(200)})
			tooBig(t, &j, Part{Last: last, Text: text(n)})
			ends(t, &j, Part{Last: true, Text: "b"}, "a"+text(200)+"b")
		}
	}
}

// P12.1: a message has at most 2^16 bytes: what is beyond changes nothing, what still goes in does.
func TestPutLongMessage(t *testing.T) {
	for _, last := range []bool{false, true} {
		s := text(whole)
		j := fill(t, s)
		isOpen(t, j, 328, whole)
		tooBig(t, j, Part{Last: last, Text: "a"})
		tooBig(t, j, Part{Last: last, Text: text(200)})
		tooBig(t, j, Part{Last: last, Text: text(201)})
		goes(t, j, Part{})
		isOpen(t, j, 329, whole)
		ends(t, j, Part{Last: true}, s)
		goes(t, j, Part{Text: "a"})

		j = fill(t, s[:whole-136])
		isOpen(t, j, 327, whole-136)
		tooBig(t, j, Part{Last: last, Text: text(200)})
		tooBig(t, j, Part{Last: last, Text: text(137)})
		goes(t, j, Part{Text: s[whole-136 : whole-1]})
		isOpen(t, j, 328, whole-1)
		tooBig(t, j, Part{Last: last, Text: "ab"})
		ends(t, j, Part{Last: true, Text: s[whole-1:]}, s)
	}
}

// P12.1: parts may be as small, and as many, as they like.
func TestPutSmallParts(t *testing.T) {
	s := text(whole)
	var j Join
	for k := range whole {
		goes(t, &j, Part{Text: s[k : k+1]})
		goes(t, &j, Part{})
	}
	isOpen(t, &j, 2*whole, whole)
	tooBig(t, &j, Part{Last: true, Text: "a"})
	ends(t, &j, Part{Last: true}, s)
}

// P12.1, K3: a message that was told stays as it is, whatever comes.
func TestPutShares(t *testing.T) {
	var j Join
	goes(t, &j, Part{Text: "abc"})
	s, _, _ := j.Put(Part{Last: true, Text: "def"})
	goes(t, &j, Part{Text: "uvwxyz"})
	k, _, _ := j.Put(Part{Last: true, Text: "123"})
	if s != "abcdef" || k != "uvwxyz123" {
		t.Errorf("%q, %q", s, k)
	}
}

// P12.1: All, of none, of parts that end none, one, and several messages, and behind others.
func TestAll(t *testing.T) {
	var j Join
	all := func(parts, bytes int, want []string, l ...Part) {
		t.Helper()
		if got, e := j.All(l...); !slices.Equal(got, want) || e != api.OK {
			t.Errorf("%q, %d, not %q", got, e, want)
		}
		isOpen(t, &j, parts, bytes)
	}
	all(0, 0, nil)
	all(2, 3, nil, Part{Text: "ab"}, Part{Text: "c"})
	all(2, 3, nil)
	all(0, 0, []string{"abcd"}, Part{Last: true, Text: "d"})
	all(1, 1, []string{"", "ef", ""}, Part{Last: true}, Part{Text: "e"}, Part{Last: true, Text: "f"}, Part{Last: true}, Part{Text: "g"})
	all(0, 0, []string{"gh", "i"}, Part{Last: true, Text: "h"}, Part{Last: true, Text: "i"})
}

// P12.1: All ends at the first error: what was whole ahead of it is told beside it, what comes behind it isn't put.
func TestAllErrors(t *testing.T) {
	long, end := Part{Last: true, Text: text(201)}, Part{Last: true, Text: "z"}
	for _, c := range []struct {
		put          []Part
		want         []string
		parts, bytes int
	}{
		{[]Part{long}, nil, 0, 0},
		{[]Part{long, end}, nil, 0, 0},
		{[]Part{{Text: "a"}, long, end, {Text: "b"}}, nil, 1, 1},
		{[]Part{end, long}, []string{"z"}, 0, 0},
		{[]Part{{Text: "a"}, end, end, {Text: "bc"}, {}, long, end, long}, []string{"az", "z"}, 2, 2},
	} {
		var j Join
		if got, e := j.All(c.put...); !slices.Equal(got, c.want) || e != api.ErrBig {
			t.Errorf("%d parts: %q, %d, not %q", len(c.put), got, e, c.want)
		}
		isOpen(t, &j, c.parts, c.bytes)
	}
	j := fill(t, text(whole))
	if l, e := j.All(Part{}, Part{Text: "a"}, end); len(l) != 0 || e != api.ErrBig {
		t.Errorf("%d messages, %d", len(l), e)
	}
	isOpen(t, j, 329, whole)
	if l, e := j.All(Part{Last: true}, end, long, end); !slices.Equal(l, []string{text(whole), "z"}) || e != api.ErrBig {
		t.Errorf("%d messages, %d", len(l), e)
	}
	isOpen(t, j, 0, 0)
}

// P12.1, K3: All neither changes nor keeps the list that it is handed.
func TestAllShares(t *testing.T) {
	l := []Part{{Text: "a"}, {Last: true, Text: "b"}, {Text: "c"}}
	was := slices.Clone(l)
	var j Join
	got, _ := j.All(l...)
	if !slices.Equal(l, was) {
		t.Errorf("changed: %v", l)
	}
	l[2].Text = "z"
	k, _ := j.All(Part{Last: true, Text: "d"}, Part{Last: true})
	k[0] += "!"
	if !slices.Equal(got, []string{"ab"}) || !slices.Equal(k, []string{"cd!", ""}) {
		t.Errorf("%q, %q", got, k)
	}
}

// slow is a join that keeps all parts of its message, and looks at them anew for each call.
type slow []Part

func (l slow) text() string {
	var b strings.Builder
	for _, p := range l {
		b.WriteString(p.Text)
	}
	return b.String()
}

func (l *slow) put(p Part) (string, bool, api.Errno) {
	if len(p.Text) > 200 || len(l.text())+len(p.Text) > 65536 {
		return "", false, api.ErrBig
	}
	*l = append(*l, p)
	if !p.Last {
		return "", false, api.OK
	}
	s := l.text()
	*l = nil
	return s, true, api.OK
}

// P12.1: calls by chance, against a slow join.
func TestJoinByChance(t *testing.T) {
	for seed := range int64(6) {
		r := rand.New(rand.NewSource(seed))
		var j Join
		var m slow
		for range 1500 {
			p := Part{Last: r.Intn(700) == 0, Text: text(200)[:[]int{200, 199, 200, r.Intn(201)}[r.Intn(4)]]}
			if r.Intn(20) == 0 {
				p.Text = text(190 + r.Intn(30))
			}
			s, ok, e := j.Put(p)
			ws, wok, we := m.put(p)
			if s != ws || ok != wok || e != we {
				t.Fatalf("seed %d: Put of %d bytes, last %v: %d bytes, %v, %d, not %d, %v, %d", seed, len(p.Text), p.Last, len(s), ok, e, len(ws), wok, we)
			}
			isOpen(t, &j, len(m), len(m.text()))
		}
	}
}

// P12.2: the parts of messages, one behind the other, are these messages: part by part, as bytes, and in lists.
func TestMessages(t *testing.T) {
	r := rand.New(rand.NewSource(22))
	sizes := []int{0, 1, 199, 200, 201, 400, 401, whole - 1, whole}
	var sent []string
	var parts []Part
	for k := range 120 {
		n := r.Intn(1000)
		if k < len(sizes) {
			n = sizes[k]
		}
		b := make([]byte, n)
		r.Read(b)
		sent = append(sent, string(b))
		for _, p := range cut(t, string(b)) {
			q, e := Parse(p.Bytes())
			if e != api.OK {
				t.Fatalf("Parse: %d", e)
			}
			parts = append(parts, q)
		}
	}
	var one, all, some Join
	var came []string
	for _, p := range parts {
		s, ok, e := one.Put(p)
		if e != api.OK {
			t.Fatalf("Put: %d", e)
		}
		if ok {
			came = append(came, s)
		}
	}
	if !slices.Equal(came, sent) {
		t.Error("part by part: others")
	}
	if l, e := all.All(parts...); !slices.Equal(l, sent) || e != api.OK {
		t.Errorf("all at once: %d messages, %d", len(l), e)
	}
	came = nil
	for l := parts; len(l) > 0; {
		n := min(len(l), r.Intn(9))
		got, e := some.All(l[:n]...)
		if e != api.OK {
			t.Fatalf("All: %d", e)
		}
		came, l = append(came, got...), l[n:]
	}
	if !slices.Equal(came, sent) {
		t.Error("list by list: others")
	}
	isOpen(t, &one, 0, 0)
	isOpen(t, &all, 0, 0)
	isOpen(t, &some, 0, 0)
}
