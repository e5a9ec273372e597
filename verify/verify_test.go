package verify

import (
	"math"
	"math/rand"
	"reflect"
	"slices"
	"strings"
	"testing"

	"cotillion/api"
	"cotillion/code"
)

var of = code.Of

// plain: a sound function of so many arguments.
func plain(args int) code.Func {
	return code.Make(args, args, of(code.Push, 1), of(code.Ret))
}

// image: three functions, of which the last one, of 2 arguments and 3 locals, is of these instructions.
func image(l ...code.Instr) code.Image {
	return code.Image{Funcs: []code.Func{plain(1), plain(4), code.Make(2, 3, l...)}}
}

// join: instructions one behind the other.
func join(parts ...[]code.Instr) []code.Instr {
	return slices.Concat(parts...)
}

func times(n int, l ...code.Instr) []code.Instr {
	return slices.Repeat(l, n)
}

func seq(l ...code.Instr) []code.Instr {
	return l
}

// --- numbers ---

// P4.1: HostArgs of all calls, and of others.
func TestHostArgs(t *testing.T) {
	if Hosts != 7 {
		t.Fatalf("Hosts: %d", Hosts)
	}
	want := map[int64]int{0: 3, 1: 1, 2: 2, 3: 3, 4: 0, 5: 1, 6: 0, 7: -1, 8: -1, -1: -1, 1 << 32: -1, math.MaxInt64: -1, math.MinInt64: -1}
	for n, args := range want {
		if got := HostArgs(n); got != args {
			t.Errorf("HostArgs(%d): %d, not %d", n, got, args)
		}
	}
}

// P4.1: Entry is 1 of function 0, else 4.
func TestEntry(t *testing.T) {
	for fn, want := range map[int]int{0: 1, 1: 4, 2: 4, 15: 4, 99: 4, -1: 4, math.MinInt: 4, math.MaxInt: 4} {
		if got := Entry(fn); got != want {
			t.Errorf("Entry(%d): %d, not %d", fn, got, want)
		}
	}
}

// --- what an instruction takes and leaves ---

// effects: the chapter's list, in its words; of call and host the argument says it.
const effects = "push 0 1, load 0 1, pop 1 0, store 1 0, branch 1 0, dup 1 2, swap 2 2, add 2 1, sub 2 1, mul 2 1, div 2 1, mod 2 1, eq 2 1, less 2 1, not 1 1, get 1 1, rand 1 1, put 2 0, ret 1 0, jump 0 0"

type effectRow struct {
	takes, leaves int
	ok            bool
}

var rows = readRows()

// readRows: the rows of the list stand at their ops' numbers; what isn't in it isn't ok.
func readRows() (l [256]effectRow) {
	for o := code.Push; o <= code.Last; o++ {
		for _, row := range strings.Split(effects, ", ") {
			if f := strings.Fields(row); f[0] == o.Name() {
				l[o] = effectRow{int(f[1][0] - '0'), int(f[2][0] - '0'), true}
			}
		}
	}
	return l
}

// P4.1: of each op, with just enough values ahead of it, and with one less.
func TestEffects(t *testing.T) {
	for o := code.Push; o <= code.Last; o++ {
		takes, leaves, ok := rows[o].takes, rows[o].leaves, rows[o].ok
		if !ok || o == code.Ret {
			continue
		}
		at := takes
		i := of(o, 0)
		if o == code.Jump || o == code.Branch {
			i.Arg = int64(at) + 1
		}
		enough := image(join(times(takes, of(code.Push)), seq(i), times(8, of(code.Push)))...)
		enough.Funcs[2].Code = append(enough.Funcs[2].Code, of(code.Jump, int64(len(enough.Funcs[2].Code)))) // on the spot: all is well there
		l, ok := Depths(enough, 2)
		if !ok || l[at] != takes || l[at+1] != leaves {
			t.Errorf("%s: %v, %v", o.Name(), l, ok)
		}
		if takes > 0 {
			less := image(enough.Funcs[2].Code[1:]...)
			if f, e := Check(less); e != api.ErrCode || f != (Fault{2, at - 1}) {
				t.Errorf("%s with less: %+v, %d", o.Name(), f, e)
			}
		}
	}
}

// P4.1: call takes what the called function takes, host what HostArgs says; both leave one.
func TestCalls(t *testing.T) {
	for args := 0; args <= 16; args++ {
		m := image(join(times(args, of(code.Push)), seq(of(code.Call, 3), of(code.Ret)))...)
		m.Funcs = append(m.Funcs, plain(args))
		if l, ok := Depths(m, 2); !ok || l[args] != args || l[args+1] != 1 {
			t.Errorf("call of %d: %v, %v", args, l, ok)
		}
		if f, e := Check(m); e != api.OK {
			t.Errorf("call of %d: %+v, %d", args, f, e)
		}
		if args > 0 {
			m.Funcs[2].Code = m.Funcs[2].Code[1:]
			if f, e := Check(m); e != api.ErrCode || f != (Fault{2, args - 1}) {
				t.Errorf("call of %d with less: %+v, %d", args, f, e)
			}
		}
	}
	for n := range int64(Hosts) {
		args := HostArgs(n)
		m := image(join(times(args, of(code.Push)), seq(of(code.Host, n), of(code.Ret)))...)
		if l, ok := Depths(m, 2); !ok || l[args] != args || l[args+1] != 1 {
			t.Errorf("host %d: %v, %v", n, l, ok)
		}
	}
}

// P4.1: which arguments may be.
func TestArguments(t *testing.T) {
	far := []int64{-1, math.MinInt64, math.MaxInt64, 1 << 32, -1 << 32}
	for _, c := range []struct {
		name      string
		l         func(arg int64) []code.Instr
		at        int
		good, bad []int64
	}{
		{"push", func(a int64) []code.Instr { return seq(of(code.Push, a), of(code.Ret)) }, 0, join64(far, 0, 64), nil},
		{"load", func(a int64) []code.Instr { return seq(of(code.Load, a), of(code.Ret)) }, 0, []int64{0, 1, 2}, join64(far, 3, 4)},
		{"store", func(a int64) []code.Instr { return seq(of(code.Push), of(code.Store, a), of(code.Push), of(code.Ret)) }, 1, []int64{0, 1, 2}, join64(far, 3, 4)},
		{"jump", func(a int64) []code.Instr { return seq(of(code.Jump, a), of(code.Jump, 0), of(code.Jump, 1)) }, 0, []int64{0, 1, 2}, join64(far, 3, 4)},
		{"branch", func(a int64) []code.Instr { return seq(of(code.Push), of(code.Branch, a), of(code.Jump, 0)) }, 1, []int64{0, 2}, join64(far, 3, 4)},
		{"call", func(a int64) []code.Instr { return seq(of(code.Push), of(code.Call, a), of(code.Ret)) }, 1, []int64{0}, join64(far, 3, 4, 16)},
		{"call of itself", func(a int64) []code.Instr {
			return seq(of(code.Push), of(code.Push), of(code.Call, a), of(code.Ret))
		}, 2, []int64{2}, join64(far, 3)},
		{"host", func(a int64) []code.Instr { return seq(of(code.Push), of(code.Host, a), of(code.Ret)) }, 1, []int64{1, 5}, join64(far, 7, 8)},
	} {
		for _, a := range c.good {
			if f, e := Check(image(c.l(a)...)); e != api.OK || f != (Fault{}) {
				t.Errorf("%s %d: %+v, %d", c.name, a, f, e)
			}
		}
		for _, a := range c.bad {
			if f, e := Check(image(c.l(a)...)); e != api.ErrCode || f != (Fault{2, c.at}) {
				t.Errorf("%s %d: %+v, %d", c.name, a, f, e)
			}
			if l, ok := Depths(image(c.l(a)...), 2); ok || l != nil {
				t.Errorf("%s %d: %v, %v", c.name, a, l, ok)
			}
		}
	}
}

func join64(l []int64, more ...int64) []int64 {
	return slices.Concat(l, more)
}

// --- sound ---

// P4.1: functions that are sound, and how many values there are.
func TestDepths(t *testing.T) {
	for _, c := range []struct {
		name string
		l    []code.Instr
		want []int
	}{
		{"push, ret", seq(of(code.Push), of(code.Ret)), []int{0, 1}},
		{"a loop of one", seq(of(code.Jump, 0)), []int{0}},
		{"what isn't reached may be anything", seq(of(code.Push), of(code.Ret), of(code.Op(0)), of(code.Ret), of(code.Jump, -9)), []int{0, 1, -1, -1, -1}},
		{"jump over", seq(of(code.Jump, 2), of(code.Pop), of(code.Push), of(code.Ret)), []int{0, -1, 0, 1}},
		{"jump back", seq(of(code.Jump, 3), of(code.Push), of(code.Ret), of(code.Jump, 1)), []int{0, 0, 1, 0}},
		{"two ways", seq(of(code.Load, 0), of(code.Branch, 4), of(code.Push), of(code.Jump, 5), of(code.Push), of(code.Ret)), []int{0, 1, 0, 1, 0, 1}},
		{"branch to the next one", seq(of(code.Push), of(code.Branch, 2), of(code.Push), of(code.Ret)), []int{0, 1, 0, 1}},
		{"branch to itself", seq(of(code.Push), of(code.Push), of(code.Branch, 0), of(code.Ret)), nil},
		{"two rets", seq(of(code.Push), of(code.Dup), of(code.Branch, 4), of(code.Ret), of(code.Ret)), []int{0, 1, 2, 1, 1}},
		{"values stay over a loop", seq(of(code.Push), of(code.Push), of(code.Branch, 1), of(code.Ret)), []int{0, 1, 2, 1}},
		{"64 values", join(times(64, of(code.Push)), times(63, of(code.Pop)), seq(of(code.Ret))), upAndDown(64)},
		{"65 values", join(times(65, of(code.Push)), times(64, of(code.Pop)), seq(of(code.Ret))), nil},
		{"dup to 64", join(seq(of(code.Push)), times(63, of(code.Dup)), times(63, of(code.Add)), seq(of(code.Ret))), upAndDown(64)},
		{"dup to 65", join(seq(of(code.Push)), times(64, of(code.Dup)), times(64, of(code.Add)), seq(of(code.Ret))), nil},
		{"no values, behind 64, for a call", join(times(64, of(code.Push)), seq(of(code.Host, 4), of(code.Ret))), nil},
		{"no instructions", nil, nil},
	} {
		l, ok := Depths(image(c.l...), 2)
		if ok != (c.want != nil) || !slices.Equal(l, c.want) || !ok && l != nil {
			t.Errorf("%s: %v, %v, not %v", c.name, l, ok, c.want)
		}
	}
}

// upAndDown: 0 to most, and back to 1.
func upAndDown(most int) []int {
	var l []int
	for n := range most {
		l = append(l, n)
	}
	for n := most; n >= 1; n-- {
		l = append(l, n)
	}
	return l
}

// P4.1: Depths asks neither for two functions nor for any of the limits that Check has.
func TestDepthsOfAnyShape(t *testing.T) {
	long := join(times(100000, of(code.Push), of(code.Pop)), seq(of(code.Push), of(code.Ret)))
	one := code.Image{Funcs: []code.Func{code.Make(0, 0, long...)}}
	if l, ok := Depths(one, 0); !ok || len(l) != len(long) || l[199999] != 1 || l[200001] != 1 {
		t.Errorf("a long one: %d, %v", len(l), ok)
	}
	if _, e := Check(one); e != api.ErrCode {
		t.Errorf("Check: %d", e)
	}
	wide := code.Image{Funcs: []code.Func{code.Make(9, 100, of(code.Load, 99), of(code.Ret))}}
	if l, ok := Depths(wide, 0); !ok || !slices.Equal(l, []int{0, 1}) {
		t.Errorf("a wide one: %v, %v", l, ok)
	}
	narrow := code.Image{Funcs: []code.Func{code.Make(9, -1, of(code.Load, 0), of(code.Ret))}}
	if l, ok := Depths(narrow, 0); ok || l != nil {
		t.Errorf("a narrow one: %v, %v", l, ok)
	}
	many := code.Image{Funcs: slices.Repeat([]code.Func{code.Make(0, 0, of(code.Call, 39), of(code.Ret))}, 40)}
	if l, ok := Depths(many, 20); !ok || !slices.Equal(l, []int{0, 1}) {
		t.Errorf("one of many: %v, %v", l, ok)
	}
}

// P4.1: there is no such function.
func TestDepthsOfNone(t *testing.T) {
	good := image(of(code.Push), of(code.Ret))
	for _, fn := range []int{-1, 3, math.MinInt, math.MaxInt} {
		if l, ok := Depths(good, fn); ok || l != nil {
			t.Errorf("function %d: %v, %v", fn, l, ok)
		}
	}
	if l, ok := Depths(code.Image{}, 0); ok || l != nil {
		t.Errorf("of none: %v, %v", l, ok)
	}
	if l, ok := Depths(image([]code.Instr{}...), 2); ok || l != nil {
		t.Errorf("of an empty one: %v, %v", l, ok)
	}
}

// K6: called functions of which nothing is promised don't stop a walk from ending.
func TestDepthsEnds(t *testing.T) {
	for _, args := range []int{-1, -64, math.MinInt, math.MinInt + 1, 17, math.MaxInt} {
		m := image(of(code.Call, 1), of(code.Call, 1), of(code.Branch, 0), of(code.Jump, 0))
		m.Funcs[1].Args = args
		if l, ok := Depths(m, 2); !ok && l != nil {
			t.Errorf("%d arguments: %v", args, l)
		}
		if f, e := Check(m); e != api.ErrCode || f != (Fault{1, -1}) {
			t.Errorf("%d arguments: %+v, %d", args, f, e)
		}
	}
}

// --- Check ---

// P4.1: how many functions there may be; with the zero Fault, whatever else is wrong.
func TestHowMany(t *testing.T) {
	bad := code.Func{Args: -1}
	for _, c := range []struct {
		n  int
		ok bool
	}{{0, false}, {1, false}, {2, true}, {3, true}, {16, true}, {17, false}, {40, false}} {
		m := code.Image{}
		for fn := range c.n {
			m.Funcs = append(m.Funcs, plain(Entry(fn)))
		}
		f, e := Check(m)
		if f != (Fault{}) || (e == api.OK) != c.ok || !c.ok && e != api.ErrCode {
			t.Errorf("%d functions: %+v, %d", c.n, f, e)
		}
		if !c.ok && c.n > 0 {
			m.Funcs[c.n-1] = bad
			if f, e := Check(m); f != (Fault{}) || e != api.ErrCode {
				t.Errorf("%d functions, one bad: %+v, %d", c.n, f, e)
			}
		}
	}
}

// P4.1: a function's numbers, of each function.
func TestShapes(t *testing.T) {
	long := func(n int) []code.Instr {
		return join(times(n-2, of(code.Jump, int64(n-2))), seq(of(code.Push), of(code.Ret)))
	}
	short := long(2)
	for _, c := range []struct {
		name         string
		fn           int
		args, locals int
		l            []code.Instr
		ok           bool
	}{
		{"function 0 of 1", 0, 1, 1, short, true},
		{"function 0 of 0", 0, 0, 1, short, false},
		{"function 0 of 2", 0, 2, 2, short, false},
		{"function 0 of 4", 0, 4, 4, short, false},
		{"function 1 of 4", 1, 4, 4, short, true},
		{"function 1 of 3", 1, 3, 4, short, false},
		{"function 1 of 5", 1, 5, 5, short, false},
		{"function 1 of 1", 1, 1, 4, short, false},
		{"function 2 of 0", 2, 0, 0, short, true},
		{"function 2 of -1", 2, -1, 0, short, false},
		{"function 2 of -1, with -1 locals", 2, -1, -1, short, false},
		{"function 2 of the least", 2, math.MinInt, 3, short, false},
		{"function 2, 0 of -1", 2, 0, -1, short, false},
		{"function 2, 3 of 2", 2, 3, 2, short, false},
		{"function 2, 3 of 3", 2, 3, 3, short, true},
		{"function 2, 16 of 16", 2, 16, 16, short, true},
		{"function 2, 17 of 17", 2, 17, 17, short, false},
		{"function 2, 0 of 17", 2, 0, 17, short, false},
		{"function 2, 0 of the most", 2, 0, math.MaxInt, short, false},
		{"function 0, with 16", 0, 1, 16, short, true},
		{"function 0, with 17", 0, 1, 17, short, false},
		{"no instructions", 2, 0, 0, nil, false},
		{"one", 2, 0, 0, seq(of(code.Jump, 0)), true},
		{"128", 2, 0, 0, long(128), true},
		{"129", 2, 0, 0, long(129), false},
		{"129 of function 0", 0, 1, 1, long(129), false},
		{"none of function 1", 1, 4, 4, nil, false},
	} {
		m := image(short...)
		m.Funcs[c.fn] = code.Func{Args: c.args, Locals: c.locals, Code: c.l}
		f, e := Check(m)
		if c.ok && (e != api.OK || f != (Fault{})) || !c.ok && (e != api.ErrCode || f != (Fault{c.fn, -1})) {
			t.Errorf("%s: %+v, %d", c.name, f, e)
		}
	}
}

// K2: shapes are told ahead of what is in the functions; the first function of each is told.
func TestWhichFirst(t *testing.T) {
	unsound := func(args int) code.Func { return code.Make(args, args, of(code.Push), of(code.Pop), of(code.Ret)) }
	shapeless := code.Make(5, 4, of(code.Ret))
	for _, c := range []struct {
		name  string
		funcs []code.Func
		want  Fault
	}{
		{"unsound, shapeless", []code.Func{unsound(1), unsound(4), plain(0), shapeless}, Fault{3, -1}},
		{"shapeless, unsound", []code.Func{shapeless, unsound(4)}, Fault{0, -1}},
		{"two shapeless ones", []code.Func{plain(1), plain(4), shapeless, {}, shapeless}, Fault{2, -1}},
		{"two unsound ones", []code.Func{plain(1), unsound(4), plain(2), unsound(3)}, Fault{1, 2}},
		{"function 0 unsound", []code.Func{unsound(1), plain(4)}, Fault{0, 2}},
		{"the last one unsound", []code.Func{plain(1), plain(4), unsound(0)}, Fault{2, 2}},
	} {
		if f, e := Check(code.Image{Funcs: c.funcs}); e != api.ErrCode || f != c.want {
			t.Errorf("%s: %+v, %d, not %+v", c.name, f, e, c.want)
		}
	}
}

// P4.1: the instruction at which a fault is seen, in the order in which they are first reached.
func TestWhere(t *testing.T) {
	push, pop, ret := of(code.Push), of(code.Pop), of(code.Ret)
	branch := func(to int64) code.Instr { return of(code.Branch, to) }
	jump := func(to int64) code.Instr { return of(code.Jump, to) }
	for _, c := range []struct {
		name string
		l    []code.Instr
		at   int
	}{
		{"ret alone", seq(ret), 0},
		{"ret of two", seq(push, push, ret), 2},
		{"no next one", seq(push), 0},
		{"no next one, of a branch", seq(push, branch(0)), 1},
		{"no next one, behind others", seq(push, pop, push), 2},
		{"no op", seq(push, of(code.Op(0)), ret), 1},
		{"no op, 23", seq(push, of(code.Op(23)), ret), 1},
		{"no op, 255", seq(push, of(code.Op(255)), ret), 1},
		{"one value more each time", seq(push, jump(0)), 1},
		{"one value less each time", seq(push, push, pop, jump(2)), 3},
		{"the 65th value", join(times(65, push), seq(ret)), 64},
		{"of a branch the next one first", seq(push, branch(3), pop, pop), 2},
		{"both ways one step each in turn", seq(push, branch(4), push, of(code.Op(0)), pop), 4},
		{"both ways, the other one later", seq(push, branch(4), push, of(code.Op(0)), push, pop, pop), 3},
		{"unlike, seen on the longer way", seq(push, branch(4), push, jump(6), push, push, ret), 5},
		{"unlike, seen where the second way comes in", seq(push, branch(5), push, push, jump(6), push, pop, push, ret), 4},
		{"unlike, the next one is the one reached", seq(push, branch(4), push, push, push, ret), 3},
		{"unlike at a branch's own target", seq(push, push, branch(1), push, branch(0), ret), 4},
		{"unlike at a branch's next one", seq(push, push, jump(4), branch(0), pop, jump(3)), 3},
		{"a ret first", seq(push, branch(3), ret, pop), 2},
		{"a ret waits for its turn", seq(push, push, branch(5), push, ret, pop, ret), 4},
		{"a ret of two, seen behind what comes first", seq(push, push, branch(6), push, push, ret, pop, pop), 7},
	} {
		f, e := Check(image(c.l...))
		if e != api.ErrCode || f != (Fault{2, c.at}) {
			t.Errorf("%s: %+v, %d, not at %d", c.name, f, e, c.at)
		}
	}
}

// --- by chance ---

// moves: what the chapter says that an instruction takes and leaves; false: it isn't one, or its argument may not be.
func moves(m code.Image, f code.Func, i code.Instr) (takes, leaves int, ok bool) {
	in := func(most int) bool { return i.Arg >= 0 && i.Arg < int64(most) }
	switch i.Op {
	case code.Call:
		if !in(len(m.Funcs)) {
			return 0, 0, false
		}
		return m.Funcs[i.Arg].Args, 1, true
	case code.Host:
		if !in(Hosts) {
			return 0, 0, false
		}
		return []int{3, 1, 2, 3, 0, 1, 0}[i.Arg], 1, true
	}
	takes, leaves, ok = rows[i.Op].takes, rows[i.Op].leaves, rows[i.Op].ok
	switch i.Op {
	case code.Load, code.Store:
		ok = in(f.Locals)
	case code.Jump, code.Branch:
		ok = in(len(f.Code))
	}
	return takes, leaves, ok
}

// ways: where an instruction may go on.
func ways(i code.Instr, at int) []int {
	switch i.Op {
	case code.Ret:
		return nil
	case code.Jump:
		return []int{int(i.Arg)}
	case code.Branch:
		return []int{at + 1, int(i.Arg)}
	}
	return []int{at + 1}
}

// slowDepths: all that can be, each instruction with each number of values, and then whether that is sound.
func slowDepths(m code.Image, fn int) ([]int, bool) {
	f := m.Funcs[fn]
	type place struct{ at, depth int }
	seen := map[place]bool{}
	var look func(p place) bool
	look = func(p place) bool {
		if seen[p] {
			return true
		}
		seen[p] = true
		if p.at >= len(f.Code) {
			return false
		}
		i := f.Code[p.at]
		takes, leaves, ok := moves(m, f, i)
		behind := p.depth - takes + leaves
		if !ok || p.depth < takes || behind > 64 || i.Op == code.Ret && p.depth != 1 {
			return false
		}
		for _, to := range ways(i, p.at) {
			if !look(place{to, behind}) {
				return false
			}
		}
		return true
	}
	if len(f.Code) == 0 || !look(place{}) {
		return nil, false
	}
	l := slices.Repeat([]int{-1}, len(f.Code))
	for p := range seen {
		if l[p.at] >= 0 {
			return nil, false
		}
		l[p.at] = p.depth
	}
	return l, true
}

// shape: the functions that images by chance have, as far as calls of them ask.
var shape = code.Image{Funcs: []code.Func{{Args: 1}, {Args: 4}, {Args: 2}, {Args: 3}, {Args: 0}}}

// anyInstr: with an argument that may be, but that of a jump or a branch, which comes later.
func anyInstr(r *rand.Rand, locals int) code.Instr {
	i := code.Instr{Op: code.Op(1 + r.Intn(22))}
	if r.Intn(3) == 0 {
		i.Op = code.Push
	}
	switch i.Op {
	case code.Load, code.Store:
		i.Arg = int64(r.Intn(max(locals, 1)))
	case code.Call:
		i.Arg = int64(r.Intn(len(shape.Funcs)))
	case code.Host:
		i.Arg = int64(r.Intn(Hosts))
	}
	return i
}

// anyFunc: often one that is sound: straight on all is well, and jumps and branches go where as many values are.
func anyFunc(r *rand.Rand, args int) code.Func {
	f := code.Func{Args: args, Locals: args + r.Intn(17-args)}
	var depths []int
	depth := 0
	put := func(i code.Instr, takes, leaves int) {
		f.Code, depths = append(f.Code, i), append(depths, depth)
		depth += leaves - takes
	}
	for size := 1 + r.Intn(60); len(f.Code) < size; {
		i := anyInstr(r, f.Locals)
		takes, leaves := rows[i.Op].takes, rows[i.Op].leaves
		if i.Op == code.Call || i.Op == code.Host {
			takes, leaves, _ = moves(shape, f, i)
		}
		if depth >= takes && depth-takes+leaves <= 64 && (i.Op != code.Ret || depth == 1) {
			put(i, takes, leaves)
		}
	}
	for depth > 1 {
		put(of(code.Pop), 1, 0)
	}
	if depth == 0 {
		put(of(code.Push), 0, 1)
	}
	put(of(code.Ret), 1, 0)
	aim(r, f, depths)
	return f
}

// aim: each jump and branch goes, if chance finds one, to an instruction that has as many values, straight on.
func aim(r *rand.Rand, f code.Func, depths []int) {
	for at, i := range f.Code {
		if i.Op != code.Jump && i.Op != code.Branch {
			continue
		}
		behind := depths[at] - rows[i.Op].takes
		to := r.Intn(len(f.Code))
		for tries := 0; tries < 50 && depths[to] != behind; tries++ {
			to = r.Intn(len(f.Code))
		}
		f.Code[at].Arg = int64(to)
	}
}

// anyImage: five functions; now and then an instruction is bent.
func anyImage(r *rand.Rand) code.Image {
	var m code.Image
	for _, f := range shape.Funcs {
		m.Funcs = append(m.Funcs, anyFunc(r, f.Args))
	}
	for r.Intn(2) == 0 {
		f := m.Funcs[r.Intn(len(m.Funcs))]
		i := &f.Code[r.Intn(len(f.Code))]
		if r.Intn(2) == 0 {
			i.Op = code.Op(r.Intn(24))
		} else {
			i.Arg += int64(r.Intn(5)) - 2
		}
	}
	return m
}

// P4.1: Depths, and with it Check, against all that can be.
func TestAgainstAllWays(t *testing.T) {
	r := rand.New(rand.NewSource(7))
	sound, unsound, runs := 0, 0, 0
	for range 3000 {
		m := anyImage(r)
		first := len(m.Funcs)
		for fn := range m.Funcs {
			want, wantOK := slowDepths(m, fn)
			l, ok := Depths(m, fn)
			if ok != wantOK || !slices.Equal(l, want) {
				t.Fatalf("%+v: %v, %v, not %v, %v", m.Funcs[fn], l, ok, want, wantOK)
			}
			if ok {
				sound++
			} else {
				unsound++
				first = min(first, fn)
			}
		}
		f, e := Check(m)
		if first == len(m.Funcs) && (e != api.OK || f != (Fault{})) {
			t.Fatalf("%+v: %+v, %d", m, f, e)
		}
		if first < len(m.Funcs) && (e != api.ErrCode || f.Func != first || f.At < 0 || f.At >= len(m.Funcs[first].Code)) {
			t.Fatalf("%+v: %+v, %d", m, f, e)
		}
		if e == api.OK {
			runs++
		}
	}
	if sound < 1000 || unsound < 1000 || runs < 100 {
		t.Errorf("chance has no ways: %d sound, %d not, %d images may be run", sound, unsound, runs)
	}
}

// P4.2, P6: of images that may be run, ways by chance, whatever their branches do.
func TestNoWayLeaves(t *testing.T) {
	r := rand.New(rand.NewSource(8))
	ran := 0
	for range 3000 {
		m := anyImage(r)
		if _, e := Check(m); e != api.OK {
			continue
		}
		ran++
		for _, f := range m.Funcs {
			for range 20 {
				goThrough(t, r, m, f)
			}
		}
	}
	if ran < 100 {
		t.Errorf("only %d images may be run", ran)
	}
}

func goThrough(t *testing.T, r *rand.Rand, m code.Image, f code.Func) {
	t.Helper()
	at, depth := 0, 0
	for range 300 {
		if at < 0 || at >= len(f.Code) {
			t.Fatalf("%+v: at %d", f, at)
		}
		i := f.Code[at]
		takes, leaves, ok := moves(m, f, i)
		if !ok || depth < takes {
			t.Fatalf("%+v: at %d: %d values", f, at, depth)
		}
		depth += leaves - takes
		if depth > 64 {
			t.Fatalf("%+v: at %d: %d values", f, at, depth)
		}
		to := ways(i, at)
		if len(to) == 0 {
			if depth != 0 {
				t.Fatalf("%+v: %d values are left", f, depth)
			}
			return
		}
		at = to[r.Intn(len(to))]
	}
}

// P4.1, K6: functions that are nothing but chance end, and are seen as they are.
func TestAnything(t *testing.T) {
	r := rand.New(rand.NewSource(9))
	for range 20000 {
		m := image()
		for range 1 + r.Intn(6) {
			m.Funcs[2].Code = append(m.Funcs[2].Code, code.Instr{Op: code.Op(r.Intn(24)), Arg: int64(r.Intn(9)) - 1})
		}
		want, wantOK := slowDepths(m, 2)
		if l, ok := Depths(m, 2); ok != wantOK || !slices.Equal(l, want) {
			t.Fatalf("%+v: %v, %v, not %v, %v", m.Funcs[2], l, ok, want, wantOK)
		}
		if f, e := Check(m); (e == api.OK) != wantOK || !wantOK && f.Func != 2 {
			t.Fatalf("%+v: %+v, %d", m.Funcs[2], f, e)
		}
	}
}

// K3, K4: no call changes an image; what is answered is the same again, and its own.
func TestImageStays(t *testing.T) {
	r := rand.New(rand.NewSource(10))
	for range 200 {
		m := anyImage(r)
		before := code.Image{}
		for _, f := range m.Funcs {
			before.Funcs = append(before.Funcs, code.Make(f.Args, f.Locals, f.Code...))
		}
		f, e := Check(m)
		a, ok := Depths(m, 0)
		wasA := slices.Clone(a)
		for k := range a {
			a[k] = 99
		}
		b, ok2 := Depths(m, 0)
		g, e2 := Check(m)
		if ok != ok2 || !slices.Equal(b, wasA) || f != g || e != e2 {
			t.Fatalf("%+v: %v, then %v; %+v, then %+v", m, wasA, b, f, g)
		}
		if !reflect.DeepEqual(m, before) {
			t.Fatalf("changed: %+v", m)
		}
	}
}
