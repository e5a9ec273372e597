package code

import (
	"math"
	"math/rand"
	"reflect"
	"slices"
	"strings"
	"testing"

	"cotillion/api"
)

// words: the chapter's list of ops, in its order.
const words = "push pop dup swap add sub mul div mod eq less not jump branch call ret load store get put rand host"

// withArg: the ops that have an argument, as the chapter lists them.
const withArg = " push jump branch call load store host "

// anyImage: within all limits, with ops that are ones, and arguments where they have one.
func anyImage(r *rand.Rand) Image {
	var m Image
	for range r.Intn(api.MaxFuncs + 1) {
		f := Func{Args: r.Intn(api.MaxLocals + 1), Locals: r.Intn(api.MaxLocals + 1)}
		for range r.Intn(api.MaxCode+1) >> r.Intn(6) {
			i := Instr{Op: Op(1 + r.Intn(int(Last)))}
			if i.Op.HasArg() {
				i.Arg = int64(r.Uint64()) >> r.Intn(64)
			}
			f.Code = append(f.Code, i)
		}
		m.Funcs = append(m.Funcs, f)
	}
	return m
}

// same: a list that is nil and an empty one are the same.
func same(a, b Image) bool {
	return slices.EqualFunc(a.Funcs, b.Funcs, func(f, g Func) bool {
		return f.Args == g.Args && f.Locals == g.Locals && slices.Equal(f.Code, g.Code)
	})
}

// --- ops ---

// P3.1: the ops' numbers, names, and which have an argument; of all bytes.
func TestOps(t *testing.T) {
	byNumber := []Op{Push, Pop, Dup, Swap, Add, Sub, Mul, Div, Mod, Eq, Less, Not, Jump, Branch, Call, Ret, Load, Store, Get, Put, Rand, Host}
	names := strings.Fields(words)
	if Last != 22 || len(byNumber) != 22 || len(names) != 22 {
		t.Fatalf("Last: %d", Last)
	}
	for n := range 256 {
		name, has := "?", false
		if n >= 1 && n <= 22 {
			name = names[n-1]
			has = strings.Contains(withArg, " "+name+" ")
			if byNumber[n-1] != Op(n) {
				t.Errorf("%s: %d, not %d", name, byNumber[n-1], n)
			}
		}
		if o := Op(n); o.Name() != name || o.HasArg() != has {
			t.Errorf("op %d: %q %v, not %q %v", n, o.Name(), o.HasArg(), name, has)
		}
	}
}

// P3.1: Of takes the first of arg, if the op has an argument.
func TestOf(t *testing.T) {
	for n := range 256 {
		o := Op(n)
		var five, least int64
		if o.HasArg() {
			five, least = 5, math.MinInt64
		}
		for _, c := range []struct{ got, want Instr }{
			{Of(o), Instr{Op: o}},
			{Of(o, nil...), Instr{Op: o}},
			{Of(o, 5), Instr{Op: o, Arg: five}},
			{Of(o, math.MinInt64, 1, 2), Instr{Op: o, Arg: least}},
		} {
			if c.got != c.want {
				t.Errorf("Of: %+v, not %+v", c.got, c.want)
			}
		}
	}
}

// P3.1: Make answers what it is given, whatever that is.
func TestMake(t *testing.T) {
	for _, c := range []Func{
		{0, 0, nil},
		{1, 2, []Instr{{Load, 0}, {Ret, 0}}},
		{-3, math.MaxInt, []Instr{{0, 7}, {200, -1}}},
	} {
		f := Make(c.Args, c.Locals, c.Code...)
		if f.Args != c.Args || f.Locals != c.Locals || !slices.Equal(f.Code, c.Code) {
			t.Errorf("Make: %+v, not %+v", f, c)
		}
	}
}

// K3: Make keeps nothing of the list that it is handed.
func TestMakeKeepsNothing(t *testing.T) {
	l := []Instr{{Push, 5}, {Ret, 0}}
	f := Make(0, 0, l...)
	g := Make(0, 0, l...)
	l[0] = Instr{Pop, 0}
	g.Code[1] = Instr{Dup, 0}
	if !slices.Equal(f.Code, []Instr{{Push, 5}, {Ret, 0}}) {
		t.Errorf("Make: %+v", f)
	}
	if l[1] != (Instr{Ret, 0}) {
		t.Errorf("the list: %+v", l)
	}
}

// P3.1: Size counts the instructions of all functions.
func TestSize(t *testing.T) {
	l := make([]Instr, 200)
	for _, c := range []struct {
		m    Image
		want int
	}{
		{Image{}, 0},
		{Image{Funcs: []Func{{}, {}}}, 0},
		{Image{Funcs: []Func{{Args: 9, Locals: 9, Code: l[:3]}}}, 3},
		{Image{Funcs: []Func{{Code: l[:3]}, {}, {Code: l[:1]}}}, 4},
		{Image{Funcs: make([]Func, 40)}, 0},
		{Image{Funcs: []Func{{Code: l}, {Code: l}}}, 400},
	} {
		if n := c.m.Size(); n != c.want {
			t.Errorf("Size: %d, not %d", n, c.want)
		}
	}
}

// --- bytes ---

// P3.1: how images are spelled; numbers below 0 are 0, and what is no op has no argument.
func TestText(t *testing.T) {
	for _, c := range []struct {
		name string
		m    Image
		want string
	}{
		{"the example", Image{[]Func{Make(0, 0, Of(Push, 5), Of(Ret))}}, "\x01\x00\x00\x02\x01\x0a\x10"},
		{"nothing", Image{}, "\x00"},
		{"an empty list", Image{[]Func{}}, "\x00"},
		{"empty functions", Image{[]Func{{}, {Args: 3, Locals: 16, Code: []Instr{}}}}, "\x02\x00\x00\x00\x03\x10\x00"},
		{"below 0", Image{[]Func{{Args: -1, Locals: math.MinInt}}}, "\x01\x00\x00\x00"},
		{"above all limits", Image{[]Func{{Args: 300, Locals: 128, Code: make([]Instr, 129)}}}, "\x01\xac\x02\x80\x01\x81\x01" + strings.Repeat("\x00", 129)},
		{"arguments", Image{[]Func{{Code: []Instr{{Push, -1}, {Jump, 64}, {Branch, 0}, {Call, 1}, {Load, 2}, {Store, -3}, {Host, math.MinInt64}}}}},
			"\x01\x00\x00\x07\x01\x01\x0d\x80\x01\x0e\x00\x0f\x02\x11\x04\x12\x05\x16\xff\xff\xff\xff\xff\xff\xff\xff\xff\x01"},
		{"arguments of those who have none", Image{[]Func{{Code: []Instr{{Add, 9}, {Ret, -9}, {Rand, 1}}}}}, "\x01\x00\x00\x03\x05\x10\x15"},
		{"no ops", Image{[]Func{{Code: []Instr{{0, 9}, {23, 9}, {200, 9}}}}}, "\x01\x00\x00\x03\x00\x17\xc8\x01"},
	} {
		if s := c.m.Text(); s != c.want {
			t.Errorf("%s: %x, not %x", c.name, s, c.want)
		}
	}
}

// P3.1: what Parse answers of bytes that are no image; the first fault, in the order of the bytes, is told.
func TestParseErrors(t *testing.T) {
	pops := func(n int) string { return strings.Repeat("\x02", n) }
	empty := func(n int) string { return strings.Repeat("\x00\x00\x00", n) }
	for _, c := range []struct {
		name, s string
		want    api.Errno
	}{
		{"nothing", "", api.ErrEnd},
		{"no function", "\x00", api.OK},
		{"no function, and more", "\x00\x00", api.ErrForm},
		{"16 functions", "\x10" + empty(16), api.OK},
		{"17 functions", "\x11" + empty(17), api.ErrBig},
		{"17 functions, all wanting", "\x11", api.ErrBig},
		{"a function is wanting", "\x02" + empty(1), api.ErrEnd},
		{"a function too many", "\x01" + empty(2), api.ErrForm},
		{"16 arguments", "\x01\x10\x00\x00", api.OK},
		{"17 arguments", "\x01\x11\x00\x00", api.ErrBig},
		{"16 locals", "\x01\x00\x10\x00", api.OK},
		{"17 locals", "\x01\x00\x11\x00", api.ErrBig},
		{"more arguments than locals", "\x01\x05\x02\x00", api.OK},
		{"128 instructions", "\x01\x00\x00\x80\x01" + pops(128), api.OK},
		{"129 instructions", "\x01\x00\x00\x81\x01" + pops(129), api.ErrBig},
		{"127 of 128 instructions", "\x01\x00\x00\x80\x01" + pops(127), api.ErrEnd},
		{"129 of 128 instructions", "\x01\x00\x00\x80\x01" + pops(129), api.ErrForm},
		{"op 1", "\x01\x00\x00\x01\x01\x00", api.OK},
		{"op 22", "\x01\x00\x00\x01\x16\x00", api.OK},
		{"op 23", "\x01\x00\x00\x01\x17\x00", api.ErrBig},
		{"op 256 + 1", "\x01\x00\x00\x01\x81\x02\x00", api.ErrBig},
		{"op 0", "\x01\x00\x00\x01\x00", api.ErrCode},
		{"op 0, and more", "\x01\x00\x00\x01\x00\x00", api.ErrCode},
		{"op 0, and others are wanting", "\x01\x00\x00\x09\x00", api.ErrCode},
		{"op 0, ahead of op 23", "\x01\x00\x00\x02\x00\x17", api.ErrCode},
		{"op 23, ahead of op 0", "\x01\x00\x00\x02\x17\x00", api.ErrBig},
		{"op 0 of the second function", "\x02\x00\x00\x01\x10\x00\x00\x01\x00", api.ErrCode},
		{"an argument is wanting", "\x01\x00\x00\x01\x01", api.ErrEnd},
		{"an argument is wanting, half of it", "\x01\x00\x00\x01\x01\x80", api.ErrEnd},
		{"an argument in too many bytes", "\x01\x00\x00\x02\x01\x80\x00\x00", api.ErrForm},
		{"an argument above 64 bits", "\x01\x00\x00\x01\x01\xff\xff\xff\xff\xff\xff\xff\xff\xff\x02", api.ErrForm},
		{"how many in too many bytes", "\x81\x00\x00\x00\x00", api.ErrForm},
		{"an op in too many bytes", "\x01\x00\x00\x01\x80\x00", api.ErrForm},
		{"arguments ahead of locals", "\x01\x80\x00\x11", api.ErrForm},
		{"locals ahead of instructions", "\x01\x00\x11\x80\x00", api.ErrBig},
		{"more behind", "\x01\x00\x00\x01\x10\x00", api.ErrForm},
	} {
		m, e := Parse(c.s)
		if e != c.want {
			t.Errorf("%s: %d, not %d", c.name, e, c.want)
		}
		if e != api.OK && m.Funcs != nil {
			t.Errorf("%s: beside %d: %+v", c.name, e, m)
		}
		if e == api.OK && m.Text() != c.s {
			t.Errorf("%s: written again: %x", c.name, m.Text())
		}
	}
}

// P3.1: what Parse answers has all that the bytes say, and zeros where they say nothing.
func TestParse(t *testing.T) {
	m, e := Parse("\x02\x01\x02\x04\x11\x00\x01\x05\x05\x10\x00\x00\x00")
	want := Image{[]Func{{1, 2, []Instr{{Load, 0}, {Push, -3}, {Add, 0}, {Ret, 0}}}, {}}}
	if e != api.OK || !same(m, want) {
		t.Errorf("Parse: %+v, %d", m, e)
	}
}

// P3.2: there and back, of images by chance and of the greatest one.
func TestThereAndBack(t *testing.T) {
	r := rand.New(rand.NewSource(3))
	greatest := Image{}
	for range api.MaxFuncs {
		f := Func{Args: api.MaxLocals, Locals: api.MaxLocals}
		for k := range api.MaxCode {
			f.Code = append(f.Code, Of(Op(1+k%int(Last)), math.MinInt64, 0))
		}
		greatest.Funcs = append(greatest.Funcs, f)
	}
	images := []Image{{}, {Funcs: []Func{{}}}, greatest}
	for range 500 {
		images = append(images, anyImage(r))
	}
	for _, m := range images {
		s := m.Text()
		x, e := Parse(s)
		if e != api.OK || !same(x, m) || x.Text() != s {
			t.Fatalf("%+v: %x: %+v, %d", m, s, x, e)
		}
		if x.Size() != m.Size() {
			t.Fatalf("Size: %d, not %d", x.Size(), m.Size())
		}
	}
}

// P3.2: bytes that are bent, cut or longer are told, or are those of another image, written the same.
func TestBentBytes(t *testing.T) {
	r := rand.New(rand.NewSource(4))
	for range 300 {
		s := anyImage(r).Text()
		k := r.Intn(len(s))
		if _, e := Parse(s[:k]); e != api.ErrEnd {
			t.Fatalf("%x, cut to %d: %d", s, k, e)
		}
		if _, e := Parse(s + s[:1]); e != api.ErrForm {
			t.Fatalf("%x, and one more: %d", s, e)
		}
		b := []byte(s)
		for range 1 + r.Intn(3) {
			b[r.Intn(len(b))] = byte(r.Intn(256) >> r.Intn(8))
		}
		checkRead(t, string(b))
	}
}

// P3.2, K6: bytes by chance.
func TestAnyBytes(t *testing.T) {
	r := rand.New(rand.NewSource(5))
	for range 5000 {
		b := make([]byte, r.Intn(40))
		for k := range b {
			b[k] = byte(r.Intn(256) >> r.Intn(8))
		}
		checkRead(t, string(b))
	}
}

// checkRead: what is read is written the same, has ops that are ones, and is within the limits; what isn't, is nothing.
func checkRead(t *testing.T, s string) {
	t.Helper()
	m, e := Parse(s)
	if e != api.OK {
		if m.Funcs != nil {
			t.Fatalf("%x: beside %d: %+v", s, e, m)
		}
		return
	}
	if m.Text() != s {
		t.Fatalf("%x: written again: %x", s, m.Text())
	}
	if len(m.Funcs) > 16 {
		t.Fatalf("%x: %d functions", s, len(m.Funcs))
	}
	for _, f := range m.Funcs {
		if f.Args < 0 || f.Args > 16 || f.Locals < 0 || f.Locals > 16 || len(f.Code) > 128 {
			t.Fatalf("%x: %+v", s, f)
		}
		for _, i := range f.Code {
			if i.Op.Name() == "?" || !i.Op.HasArg() && i.Arg != 0 {
				t.Fatalf("%x: %+v", s, i)
			}
		}
	}
}

// K3, K4: no call changes an image; no two answers share memory; the same call is answered the same.
func TestImageStays(t *testing.T) {
	r := rand.New(rand.NewSource(6))
	for range 50 {
		m := anyImage(r)
		before := Image{}
		for _, f := range m.Funcs {
			before.Funcs = append(before.Funcs, Make(f.Args, f.Locals, f.Code...))
		}
		s := m.Text()
		m.Size()
		if !same(m, before) || m.Text() != s {
			t.Fatalf("changed: %+v", m)
		}
		a, _ := Parse(s)
		b, _ := Parse(s)
		if !reflect.DeepEqual(a, b) {
			t.Fatalf("Parse: %+v, then %+v", a, b)
		}
		for k := range a.Funcs {
			a.Funcs[k].Args = 99
			for at := range a.Funcs[k].Code {
				a.Funcs[k].Code[at] = Instr{}
			}
		}
		if !same(b, before) || m.Text() != s {
			t.Fatalf("shared: %+v", b)
		}
	}
}
