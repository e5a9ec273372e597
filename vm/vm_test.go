package vm

import (
	"fmt"
	"math"
	"math/big"
	"math/rand"
	"reflect"
	"slices"
	"testing"

	"cotillion/api"
	"cotillion/code"
	"cotillion/dice"
	"cotillion/frame"
	"cotillion/verify"
)

var of = code.Of

func seq(l ...code.Instr) []code.Instr {
	return l
}

func join(parts ...[]code.Instr) []code.Instr {
	return slices.Concat(parts...)
}

func times(n int, l ...code.Instr) []code.Instr {
	return slices.Repeat(l, n)
}

// asked is one call of a host.
type asked struct {
	call int
	args []int64
}

// teller writes down what it is asked; it can't do what fails says, and changes the list that it is handed.
type teller struct {
	calls []asked
	fails func(call int, args []int64) bool
}

func (h *teller) Do(call int, args ...int64) (int64, bool) {
	h.calls = append(h.calls, asked{call, slices.Clone(args)})
	answer := toldOf(call, args)
	if h.fails != nil && h.fails(call, args) {
		return answer, false
	}
	for k := range args {
		args[k] = -77
	}
	return answer, true
}

// toldOf: an answer in which each argument has a weight of its own.
func toldOf(call int, args []int64) int64 {
	x := int64(1000 * (call + 1))
	for k, a := range args {
		x += a * int64(k+1) * 7
	}
	return x
}

// entries: the two functions that each image has.
func entries() []code.Func {
	return []code.Func{
		code.Make(1, 1, of(code.Load, 0), of(code.Ret)),
		code.Make(4, 4, of(code.Load, 3), of(code.Load, 0), of(code.Sub), of(code.Ret)),
	}
}

// machine: with these functions from number 2 on. Its image may be run.
func machine(t *testing.T, more ...code.Func) *Machine {
	t.Helper()
	m := &Machine{Heap: new(frame.Heap), Dice: dice.New(3), Host: new(teller), Image: code.Image{Funcs: append(entries(), more...)}}
	if f, e := verify.Check(m.Image); e != api.OK {
		t.Fatalf("the image may not be run: %+v", f)
	}
	return m
}

// runOne: function 2, of these instructions, with 6 locals.
func runOne(t *testing.T, args []int64, l ...code.Instr) Result {
	t.Helper()
	return machine(t, code.Make(len(args), 6, l...)).Run(1000, 2, args...)
}

func done(value int64, steps int) Result {
	return Result{Value: value, Steps: steps}
}

// --- traps ---

// P7.1: Word of each trap, and of none.
func TestWord(t *testing.T) {
	for k, want := range []string{"done", "zero", "fuel", "frames", "cell", "bad", "?", "?"} {
		if got := Trap(k).Word(); got != want {
			t.Errorf("Trap(%d): %q, not %q", k, got, want)
		}
	}
	for _, k := range []Trap{-1, 255, 256, 1 << 32, math.MinInt, math.MaxInt} {
		if got := k.Word(); got != "?" {
			t.Errorf("Trap(%d): %q", k, got)
		}
	}
	if l := []Trap{Done, Zero, Fuel, Frames, Cell, Bad}; !slices.Equal(l, []Trap{0, 1, 2, 3, 4, 5}) {
		t.Errorf("the numbers: %v", l)
	}
}

// --- each instruction ---

// P7.1: the chapter's example.
func TestExample(t *testing.T) {
	if r := runOne(t, []int64{21}, of(code.Load, 0), of(code.Push, 2), of(code.Mul), of(code.Ret)); r != done(42, 4) {
		t.Errorf("%+v", r)
	}
}

// edges: values at which numbers wrap round, and others.
var edges = []int64{0, 1, -1, 2, -2, 3, -3, 7, -7, 10, 63, 64, -64, 1 << 31, -1 << 31, 1 << 32, 3037000500, -3037000500, 1 << 62, -1 << 62, math.MaxInt64 - 1, math.MaxInt64, math.MinInt64, math.MinInt64 + 1}

// wrapped: modulo 2^64, of -2^63 to 2^63 - 1.
func wrapped(x *big.Int) int64 {
	all := new(big.Int).Lsh(big.NewInt(1), 64)
	return int64(new(big.Int).Mod(x, all).Uint64())
}

func one(ok bool) int64 {
	if ok {
		return 1
	}
	return 0
}

// slowPair: what two values come to, in the chapter's words, of numbers without an end; false: divided by 0.
func slowPair(o code.Op, second, first int64) (int64, bool) {
	a, b, x := big.NewInt(second), big.NewInt(first), new(big.Int)
	switch o {
	case code.Add:
		return wrapped(x.Add(a, b)), true
	case code.Sub:
		return wrapped(x.Sub(a, b)), true
	case code.Mul:
		return wrapped(x.Mul(a, b)), true
	case code.Eq:
		return one(a.Cmp(b) == 0), true
	case code.Less:
		return one(a.Cmp(b) < 0), true
	}
	if first == 0 {
		return 0, false
	}
	if o == code.Div {
		return wrapped(x.Quo(a, b)), true
	}
	return wrapped(x.Rem(a, b)), true
}

// P7.1: what is made of two values, of each pair of edges.
func TestPairs(t *testing.T) {
	for _, o := range []code.Op{code.Add, code.Sub, code.Mul, code.Div, code.Mod, code.Eq, code.Less} {
		m := machine(t, code.Make(2, 2, of(code.Load, 0), of(code.Load, 1), of(o), of(code.Ret)))
		for _, second := range edges {
			for _, first := range edges {
				want := Result{Trap: Zero, Steps: 3}
				if x, ok := slowPair(o, second, first); ok {
					want = done(x, 4)
				}
				if r := m.Run(9, 2, second, first); r != want {
					t.Errorf("%d %s %d: %+v, not %+v", second, o.Name(), first, r, want)
				}
			}
		}
	}
}

// P7.1: the chapter's own words on division, written out.
func TestDivision(t *testing.T) {
	for _, c := range []struct{ second, first, quotient, left int64 }{
		{7, 2, 3, 1},
		{-7, 2, -3, -1},
		{7, -2, -3, 1},
		{-7, -2, 3, -1},
		{6, 3, 2, 0},
		{0, 5, 0, 0},
		{math.MinInt64, -1, math.MinInt64, 0},
		{math.MinInt64, 1, math.MinInt64, 0},
		{math.MaxInt64, -1, -math.MaxInt64, 0},
		{5, math.MinInt64, 0, 5},
	} {
		args := []int64{c.second, c.first}
		if r := runOne(t, args, of(code.Load, 0), of(code.Load, 1), of(code.Div), of(code.Ret)); r != done(c.quotient, 4) {
			t.Errorf("%d by %d: %+v", c.second, c.first, r)
		}
		if r := runOne(t, args, of(code.Load, 0), of(code.Load, 1), of(code.Mod), of(code.Ret)); r != done(c.left, 4) {
			t.Errorf("%d by %d leaves %+v", c.second, c.first, r)
		}
	}
}

// P7.1: what changes places: each row ends with the value that it names.
func TestMoves(t *testing.T) {
	push := func(x int64) code.Instr { return of(code.Push, x) }
	ret, sub, pop := of(code.Ret), of(code.Sub), of(code.Pop)
	for _, c := range []struct {
		name string
		l    []code.Instr
		want Result
	}{
		{"push", seq(push(5), ret), done(5, 2)},
		{"push of the least", seq(push(math.MinInt64), ret), done(math.MinInt64, 2)},
		{"push of the most", seq(push(math.MaxInt64), ret), done(math.MaxInt64, 2)},
		{"pop takes the last one", seq(push(5), push(6), pop, ret), done(5, 4)},
		{"dup", seq(push(5), of(code.Dup), of(code.Mul), ret), done(25, 4)},
		{"dup leaves what is ahead", seq(push(9), push(5), of(code.Dup), pop, sub, ret), done(4, 6)},
		{"swap", seq(push(9), push(5), of(code.Swap), sub, ret), done(-4, 5)},
		{"swap leaves what is ahead", seq(push(1), push(9), push(5), of(code.Swap), pop, pop, ret), done(1, 7)},
		{"swap twice", seq(push(9), push(5), of(code.Swap), of(code.Swap), sub, ret), done(4, 6)},
		{"not 0", seq(push(0), of(code.Not), ret), done(1, 3)},
		{"not 1", seq(push(1), of(code.Not), ret), done(0, 3)},
		{"not -1", seq(push(-1), of(code.Not), ret), done(0, 3)},
		{"not of 2^32", seq(push(1<<32), of(code.Not), ret), done(0, 3)},
		{"load of an argument", seq(of(code.Load, 1), ret), done(32, 2)},
		{"load of another local", seq(of(code.Load, 2), ret), done(0, 2)},
		{"load of the last one", seq(of(code.Load, 5), ret), done(0, 2)},
		{"store", seq(push(5), of(code.Store, 5), of(code.Load, 5), ret), done(5, 4)},
		{"store over an argument", seq(push(5), of(code.Store, 1), of(code.Load, 1), ret), done(5, 4)},
		{"store leaves the others", seq(push(5), of(code.Store, 1), of(code.Load, 0), ret), done(31, 4)},
		{"store leaves what is ahead", seq(push(8), push(5), of(code.Store, 2), ret), done(8, 4)},
	} {
		if r := runOne(t, []int64{31, 32}, c.l...); r != c.want {
			t.Errorf("%s: %+v, not %+v", c.name, r, c.want)
		}
	}
}

// P7.1: jump always, branch if first is 0, ahead and back.
func TestJumps(t *testing.T) {
	ahead := seq(of(code.Jump, 3), of(code.Push, 1), of(code.Ret), of(code.Push, 2), of(code.Ret))
	if r := runOne(t, nil, ahead...); r != done(2, 3) {
		t.Errorf("jump ahead: %+v", r)
	}
	back := seq(of(code.Jump, 3), of(code.Push, 1), of(code.Ret), of(code.Jump, 1))
	if r := runOne(t, nil, back...); r != done(1, 4) {
		t.Errorf("jump back: %+v", r)
	}
	branch := seq(of(code.Load, 0), of(code.Branch, 4), of(code.Push, 1), of(code.Ret), of(code.Push, 2), of(code.Push, 3), of(code.Add), of(code.Ret))
	for _, x := range edges {
		want := done(1, 4)
		if x == 0 {
			want = done(5, 6)
		}
		if r := runOne(t, []int64{x}, branch...); r != want {
			t.Errorf("branch of %d: %+v, not %+v", x, r, want)
		}
	}
}

// P7.1: a loop that goes back: the sum of 1 to n.
func TestLoop(t *testing.T) {
	sum := seq(
		of(code.Load, 1), of(code.Load, 0), of(code.Add), of(code.Store, 1),
		of(code.Load, 0), of(code.Push, 1), of(code.Sub), of(code.Dup), of(code.Store, 0),
		of(code.Not), of(code.Branch, 0), of(code.Load, 1), of(code.Ret))
	for n := int64(1); n <= 50; n++ {
		if r := runOne(t, []int64{n}, sum...); r != done(n*(n+1)/2, int(11*n+2)) {
			t.Errorf("1 to %d: %+v", n, r)
		}
	}
}

// P7.1: a call's arguments stand in the order of their pushes; what isn't handed over stays with who calls.
func TestCalls(t *testing.T) {
	digits := code.Make(3, 5, // 100 a + 10 b + c + the other locals, which are 0
		of(code.Load, 0), of(code.Push, 100), of(code.Mul), of(code.Load, 1), of(code.Push, 10), of(code.Mul), of(code.Add),
		of(code.Load, 2), of(code.Add), of(code.Load, 3), of(code.Add), of(code.Load, 4), of(code.Add),
		of(code.Push, 9), of(code.Store, 3), of(code.Push, 9), of(code.Store, 0), of(code.Ret))
	caller := code.Make(1, 4,
		of(code.Push, 5000), of(code.Push, 1), of(code.Push, 2), of(code.Push, 3), of(code.Call, 2), of(code.Add),
		of(code.Push, 4), of(code.Push, 5), of(code.Push, 6), of(code.Call, 2), of(code.Add), // a second time all is new
		of(code.Load, 0), of(code.Add), of(code.Load, 3), of(code.Add), of(code.Ret)) // and the locals of who calls are as they were
	m := machine(t, digits, caller)
	if r := m.Run(1000, 3, 20000); r != done(20000+5000+123+456, 16+2*18) {
		t.Errorf("%+v", r)
	}
	if r := m.Run(100, 0, 7); r != done(7, 2) {
		t.Errorf("function 0: %+v", r)
	}
	if r := m.Run(100, 1, 7, 8, 9, 70); r != done(63, 4) {
		t.Errorf("function 1: %+v", r)
	}
}

// P7.1: a function that calls itself, and one without arguments.
func TestCallsInEachOther(t *testing.T) {
	factorial := code.Make(1, 1,
		of(code.Load, 0), of(code.Branch, 8),
		of(code.Load, 0), of(code.Load, 0), of(code.Push, 1), of(code.Sub), of(code.Call, 2), of(code.Jump, 10),
		of(code.Push, 1), of(code.Ret), of(code.Mul), of(code.Ret))
	m := machine(t, factorial, code.Make(0, 0, of(code.Push, 5), of(code.Call, 2), of(code.Ret)))
	want := int64(1)
	for n := int64(0); n <= 15; n++ {
		if n > 0 {
			want *= n
		}
		if r := m.Run(1000, 2, n); r != done(want, int(10*n+4)) {
			t.Errorf("of %d: %+v", n, r)
		}
	}
	if r := m.Run(1000, 2, 16); r != (Result{Trap: Frames, Steps: 15*7 + 7}) {
		t.Errorf("of 16: %+v", r)
	}
	if r := m.Run(1000, 3); r != done(120, 57) {
		t.Errorf("of none: %+v", r)
	}
}

// P7.1: 16 calls in each other, and not 17; those that have ended don't count.
func TestFrames(t *testing.T) {
	if r := runOne(t, nil, of(code.Call, 2), of(code.Ret)); r != (Result{Trap: Frames, Steps: 16}) {
		t.Errorf("without an end: %+v", r)
	}
	deep := code.Make(1, 1, // as many calls as local 0 says, counted back
		of(code.Load, 0), of(code.Branch, 7),
		of(code.Load, 0), of(code.Push, 1), of(code.Sub), of(code.Call, 2), of(code.Ret),
		of(code.Push, 77), of(code.Ret))
	many := code.Make(0, 2, // 15 deep, fifty times
		of(code.Push, 50), of(code.Store, 0),
		of(code.Push, 14), of(code.Call, 2), of(code.Load, 1), of(code.Add), of(code.Store, 1),
		of(code.Load, 0), of(code.Push, 1), of(code.Sub), of(code.Dup), of(code.Store, 0),
		of(code.Not), of(code.Branch, 2), of(code.Load, 1), of(code.Ret))
	tooMany := code.Make(0, 0, of(code.Push, 15), of(code.Call, 2), of(code.Ret))
	m := machine(t, deep, many, tooMany)
	if r := m.Run(1000, 2, 15); r != done(77, 15*7+4) {
		t.Errorf("16 calls: %+v", r)
	}
	if r := m.Run(1000, 2, 16); r != (Result{Trap: Frames, Steps: 16 * 6}) {
		t.Errorf("17 calls: %+v", r)
	}
	if r := m.Run(100000, 3); r.Trap != Done || r.Value != 50*77 {
		t.Errorf("one behind the other: %+v", r)
	}
	if r := m.Run(1000, 4); r != (Result{Trap: Frames, Steps: 2 + 15*6}) {
		t.Errorf("17 calls, the first one another's: %+v", r)
	}
}

// P7.1: each cell, and those that aren't there; what was put stays.
func TestHeap(t *testing.T) {
	get := code.Make(1, 1, of(code.Load, 0), of(code.Get), of(code.Ret))
	put := code.Make(2, 2, of(code.Push, 5), of(code.Load, 0), of(code.Load, 1), of(code.Put), of(code.Ret))
	m := machine(t, get, put)
	for n := int64(0); n < 64; n++ {
		if r := m.Run(9, 2, n); r != done(0, 3) {
			t.Errorf("get %d: %+v", n, r)
		}
		if r := m.Run(9, 3, 100-n, n); r != done(5, 5) {
			t.Errorf("put %d: %+v", n, r)
		}
	}
	for n := int64(0); n < 64; n++ {
		if r := m.Run(9, 2, n); r != done(100-n, 3) {
			t.Errorf("get %d: %+v", n, r)
		}
		if x, ok := m.Heap.Get(n); x != 100-n || !ok {
			t.Errorf("cell %d: %d", n, x)
		}
	}
	before := m.Heap.Text()
	for _, n := range []int64{-1, 64, 65, 1 << 32, -1 << 32, math.MinInt64, math.MaxInt64} {
		if r := m.Run(9, 2, n); r != (Result{Trap: Cell, Steps: 2}) {
			t.Errorf("get %d: %+v", n, r)
		}
		if r := m.Run(9, 3, 3, n); r != (Result{Trap: Cell, Steps: 4}) {
			t.Errorf("put %d: %+v", n, r)
		}
	}
	if m.Heap.Text() != before {
		t.Error("a put that trapped has changed a cell")
	}
}

// P7.1: rand is the dice's Below; of what is below 1 nothing is taken.
func TestRand(t *testing.T) {
	m := machine(t, code.Make(1, 1, of(code.Load, 0), of(code.Rand), of(code.Ret)))
	like := dice.New(3)
	for range 5 {
		for _, n := range edges {
			if r := m.Run(9, 2, n); r != done(like.Below(n), 3) || m.State() != like.State() {
				t.Errorf("rand of %d: %+v", n, r)
			}
		}
	}
	was := m.State()
	for _, n := range []int64{0, -1, math.MinInt64} {
		if r := m.Run(9, 2, n); r != done(0, 3) || m.State() != was {
			t.Errorf("rand of %d: %+v", n, r)
		}
	}
	if m.Run(9, 2, 6); m.State() == was {
		t.Error("rand of 6 has taken nothing")
	}
}

// askHost: a function that pushes 9000, and 1, 2, 3, as many as the host's call takes, and asks for it.
func askHost(call int64) code.Func {
	l := seq(of(code.Push, 9000))
	for k := range int64(verify.HostArgs(call)) {
		l = append(l, of(code.Push, k+1))
	}
	return code.Make(0, 0, append(l, of(code.Host, call), of(code.Sub), of(code.Ret))...)
}

// P7.1: each call of the host: how many arguments it gets, in which order; its answer, and its no.
func TestHost(t *testing.T) {
	for call := range verify.Hosts {
		args := []int64{1, 2, 3}[:verify.HostArgs(int64(call))]
		m := machine(t, askHost(int64(call)))
		h := new(teller)
		m.Host = h
		if r := m.Run(99, 2); r != done(9000-toldOf(call, args), 4+len(args)) {
			t.Errorf("host %d: %+v", call, r)
		}
		want := asked{call, args}
		if len(h.calls) != 1 || h.calls[0].call != call || !slices.Equal(h.calls[0].args, args) {
			t.Errorf("host %d: %+v, not %+v", call, h.calls, want)
		}
		h.fails = func(int, []int64) bool { return true }
		if r := m.Run(99, 2); r != (Result{Trap: Bad, Steps: 2 + len(args)}) {
			t.Errorf("host %d, which it can't do: %+v", call, r)
		}
		if len(h.calls) != 2 {
			t.Errorf("host %d: asked %d times", call, len(h.calls))
		}
	}
}

// again is a host that runs the machine itself.
type again struct {
	m *Machine
	r Result
}

func (h *again) Do(call int, args ...int64) (int64, bool) {
	h.r = h.m.Run(9, 1, 1, 2, 3, 41)
	return h.r.Value, true
}

// P7.1: a run while another waits for the host: each has its own calls and its own fuel.
func TestRunWithinRun(t *testing.T) {
	m := machine(t, code.Make(0, 0, of(code.Push, 2), of(code.Host, 4), of(code.Add), of(code.Ret)))
	h := &again{m: m}
	m.Host = h
	if r := m.Run(4, 2); r != done(42, 4) || h.r != done(40, 4) {
		t.Errorf("%+v, within it %+v", r, h.r)
	}
}

// --- fuel ---

// P7.2: fuel that is just enough, one too little, 0, below 0, and more than is ever needed.
func TestFuel(t *testing.T) {
	m := machine(t, code.Make(2, 2, of(code.Load, 0), of(code.Load, 1), of(code.Div), of(code.Call, 0), of(code.Ret)))
	for _, c := range []struct {
		name  string
		args  []int64
		whole Result
	}{
		{"done", []int64{84, 2}, done(42, 7)},
		{"a trap", []int64{84, 0}, Result{Trap: Zero, Steps: 3}},
	} {
		for _, fuel := range []int{math.MinInt, -1 << 32, -2, -1, 0, 1, 2, 3, 4, 5, 6, 7, 8, 9, 1 << 40, math.MaxInt} {
			want := c.whole
			if fuel < want.Steps {
				want = Result{Trap: Fuel, Steps: max(fuel, 0)}
			}
			if r := m.Run(fuel, 2, c.args...); r != want {
				t.Errorf("%s, of fuel %d: %+v, not %+v", c.name, fuel, r, want)
			}
		}
	}
}

// P7.2: of each trap: its instruction counts, and with one less of fuel it isn't done.
func TestFuelAtTraps(t *testing.T) {
	for _, c := range []struct {
		trap  Trap
		steps int
		l     []code.Instr
	}{
		{Done, 2, seq(of(code.Push, 6), of(code.Ret))},
		{Zero, 3, seq(of(code.Push, 6), of(code.Push, 0), of(code.Div), of(code.Ret))},
		{Zero, 3, seq(of(code.Push, 6), of(code.Push, 0), of(code.Mod), of(code.Ret))},
		{Frames, 16, seq(of(code.Call, 2), of(code.Ret))},
		{Cell, 2, seq(of(code.Push, 64), of(code.Get), of(code.Ret))},
		{Cell, 3, seq(of(code.Push, 6), of(code.Push, -1), of(code.Put), of(code.Push, 6), of(code.Ret))},
		{Bad, 1, seq(of(code.Host, 6), of(code.Ret))},
	} {
		m := machine(t, code.Make(0, 0, c.l...))
		h := &teller{fails: func(call int, _ []int64) bool { return call == 6 }}
		m.Host = h
		value := int64(0)
		if c.trap == Done {
			value = 6
		}
		for _, more := range []int{0, 1, 1000} {
			if r := m.Run(c.steps+more, 2); r != (Result{c.trap, value, c.steps}) {
				t.Errorf("%s, fuel %d: %+v", c.trap.Word(), c.steps+more, r)
			}
		}
		was := len(h.calls)
		if r := m.Run(c.steps-1, 2); r != (Result{Trap: Fuel, Steps: c.steps - 1}) {
			t.Errorf("%s, one too little: %+v", c.trap.Word(), r)
		}
		if len(h.calls) != was {
			t.Errorf("%s: the host was asked without fuel", c.trap.Word())
		}
	}
}

// P7.2: what never ends does just as many instructions as there is fuel: it counts them itself.
func TestNoMoreThanFuel(t *testing.T) {
	count := code.Make(0, 0, of(code.Push, 0), of(code.Get), of(code.Push, 1), of(code.Add), of(code.Push, 0), of(code.Put), of(code.Jump, 0))
	for _, fuel := range []int{0, 5, 6, 7, 12, 13, 14, 700, 70000} {
		m := machine(t, count)
		if r := m.Run(fuel, 2); r != (Result{Trap: Fuel, Steps: fuel}) {
			t.Errorf("fuel %d: %+v", fuel, r)
		}
		if x, _ := m.Get(0); x != int64((fuel+1)/7) {
			t.Errorf("fuel %d: it went round %d times", fuel, x)
		}
	}
}

// P7.1: what was done to heap, dice and host stays, however the code ended.
func TestWhatWasDoneStays(t *testing.T) {
	work := seq(of(code.Push, 11), of(code.Push, 4), of(code.Put), of(code.Push, 9), of(code.Rand), of(code.Host, 1), of(code.Pop))
	for _, c := range []struct {
		trap Trap
		fuel int
		l    []code.Instr
	}{
		{Done, 100, seq(of(code.Push, 1), of(code.Ret))},
		{Zero, 100, seq(of(code.Push, 1), of(code.Push, 0), of(code.Mod), of(code.Ret))},
		{Fuel, 7, seq(of(code.Push, 1), of(code.Ret))},
		{Frames, 1000, seq(of(code.Push, 1), of(code.Call, 3), of(code.Ret))},
		{Cell, 100, seq(of(code.Push, 99), of(code.Get), of(code.Ret))},
		{Bad, 100, seq(of(code.Host, 6), of(code.Ret))},
	} {
		m := machine(t, code.Make(0, 0, join(work, c.l)...), code.Make(1, 1, of(code.Load), of(code.Call, 3), of(code.Ret)))
		h := &teller{fails: func(call int, _ []int64) bool { return call == 6 }}
		m.Host = h
		like := dice.New(3)
		drawn := like.Below(9)
		if r := m.Run(c.fuel, 2); r.Trap != c.trap {
			t.Errorf("%s: %+v", c.trap.Word(), r)
		}
		if x, _ := m.Get(4); x != 11 || m.State() != like.State() {
			t.Errorf("%s: cell 4 is %d, the dice's state %x", c.trap.Word(), x, m.State())
		}
		if len(h.calls) == 0 || h.calls[0].call != 1 || !slices.Equal(h.calls[0].args, []int64{drawn}) {
			t.Errorf("%s: the host was asked %+v", c.trap.Word(), h.calls)
		}
	}
}

// --- as many values as there may be ---

// P7.3: 64 values in each of 16 calls, each with 16 locals.
func TestAllFull(t *testing.T) {
	l := join(
		seq(of(code.Push, 1)), times(61, of(code.Dup)), // 62 values
		seq(of(code.Load, 0), of(code.Branch, 69)),
		seq(of(code.Load, 0), of(code.Push, 1), of(code.Sub), of(code.Call, 2), of(code.Add)), // 64 of them ahead of sub
		times(41, of(code.Add)), seq(of(code.Store, 15)), times(10, of(code.Put)), seq(of(code.Load, 15), of(code.Ret)))
	m := machine(t, code.Make(1, 16, l...))
	depths, ok := verify.Depths(m.Image, 2)
	if !ok || slices.Max(depths) != 64 {
		t.Fatalf("it isn't full: %v", depths)
	}
	if r := m.Run(100000, 2, 15); r != done(16*42, 16*len(l)-5) {
		t.Errorf("%+v", r)
	}
	if r := m.Run(100000, 2, 16); r != (Result{Trap: Frames, Steps: 16 * 68}) {
		t.Errorf("%+v", r)
	}
}

// --- by chance, against a slow one ---

// slow runs as the chapter says it, on plain lists; it fails if a value is wanting, or one is too many.
type slow struct {
	t      *testing.T
	image  code.Image
	cells  []int64
	dice   *dice.Dice
	host   *teller
	fuel   int
	steps  int
	frames int
}

// stop ends a slow run from within its calls.
type stop struct{ trap Trap }

func (s *slow) run(fn int, args []int64) (r Result) {
	defer func() {
		if x := recover(); x != nil {
			r = Result{Trap: x.(stop).trap, Steps: s.steps}
		}
	}()
	v := s.call(fn, args)
	return Result{Value: v, Steps: s.steps}
}

// slowCall is a call of a slow run.
type slowCall struct {
	*slow
	locals, values []int64
}

func (c *slowCall) take() int64 {
	if len(c.values) == 0 {
		c.t.Fatal("a value is wanting")
	}
	x := c.values[len(c.values)-1]
	c.values = c.values[:len(c.values)-1]
	return x
}

func (c *slowCall) takeList(n int) []int64 {
	l := make([]int64, n)
	for k := n - 1; k >= 0; k-- {
		l[k] = c.take()
	}
	return l
}

func (c *slowCall) leave(l ...int64) {
	c.values = append(c.values, l...)
	if len(c.values) > 64 {
		c.t.Fatal("one value is too many")
	}
}

func (s *slow) call(fn int, args []int64) int64 {
	f := s.image.Funcs[fn]
	s.frames++
	c := &slowCall{slow: s, locals: append(slices.Clone(args), make([]int64, f.Locals-len(args))...)}
	for at := 0; ; {
		if s.steps >= s.fuel {
			panic(stop{Fuel})
		}
		s.steps++
		i := f.Code[at]
		at++
		switch i.Op {
		case code.Ret:
			s.frames--
			return c.take()
		case code.Jump:
			at = int(i.Arg)
		case code.Branch:
			if c.take() == 0 {
				at = int(i.Arg)
			}
		case code.Call:
			if s.frames == 16 {
				panic(stop{Frames})
			}
			c.leave(s.call(int(i.Arg), c.takeList(s.image.Funcs[i.Arg].Args)))
		default:
			c.plain(i)
		}
	}
}

// plain: an instruction behind which the next one comes.
func (c *slowCall) plain(i code.Instr) {
	switch i.Op {
	case code.Push:
		c.leave(i.Arg)
	case code.Pop:
		c.take()
	case code.Dup:
		x := c.take()
		c.leave(x, x)
	case code.Swap:
		l := c.takeList(2)
		c.leave(l[1], l[0])
	case code.Not:
		c.leave(one(c.take() == 0))
	case code.Load:
		c.leave(c.locals[i.Arg])
	case code.Store:
		c.locals[i.Arg] = c.take()
	case code.Get, code.Put, code.Rand, code.Host:
		c.beyond(i)
	default:
		l := c.takeList(2)
		x, ok := slowPair(i.Op, l[0], l[1])
		if !ok {
			panic(stop{Zero})
		}
		c.leave(x)
	}
}

// beyond: an instruction that asks heap, dice, or host.
func (c *slowCall) beyond(i code.Instr) {
	switch i.Op {
	case code.Get:
		c.leave(*c.cell(c.take()))
	case code.Put:
		l := c.takeList(2)
		*c.cell(l[1]) = l[0]
	case code.Rand:
		c.leave(c.dice.Below(c.take()))
	case code.Host:
		l := c.takeList([]int{3, 1, 2, 3, 0, 1, 0}[i.Arg])
		x, ok := c.host.Do(int(i.Arg), l...)
		if !ok {
			panic(stop{Bad})
		}
		c.leave(x)
	}
}

func (c *slowCall) cell(n int64) *int64 {
	if n < 0 || n >= 64 {
		panic(stop{Cell})
	}
	return &c.cells[n]
}

// --- images by chance ---

var takesOf = map[string]int{"push": 0, "load": 0, "jump": 0, "pop": 1, "store": 1, "branch": 1, "dup": 1, "not": 1, "get": 1, "rand": 1, "ret": 1, "swap": 2, "add": 2, "sub": 2, "mul": 2, "div": 2, "mod": 2, "eq": 2, "less": 2, "put": 2}
var leavesOf = map[string]int{"push": 1, "load": 1, "dup": 2, "not": 1, "get": 1, "rand": 1, "swap": 2, "add": 1, "sub": 1, "mul": 1, "div": 1, "mod": 1, "eq": 1, "less": 1, "call": 1, "host": 1}

// argsOf: the functions of an image by chance, as far as calls of them ask.
var argsOf = []int{1, 4, 0, 2, 3}

func takes(i code.Instr) int {
	switch i.Op {
	case code.Call:
		return argsOf[i.Arg]
	case code.Host:
		return verify.HostArgs(i.Arg)
	}
	return takesOf[i.Op.Name()]
}

// anyInstr: with an argument that may be, but that of a jump or a branch, which comes later.
func anyInstr(r *rand.Rand, locals int) code.Instr {
	i := code.Instr{Op: code.Op(1 + r.Intn(int(code.Last)))}
	if r.Intn(3) == 0 {
		i.Op = code.Push
	}
	switch i.Op {
	case code.Push:
		i.Arg = int64(r.Intn(70)) - 3
		if r.Intn(4) == 0 {
			i.Arg = edges[r.Intn(len(edges))]
		}
	case code.Load, code.Store:
		i.Arg = int64(r.Intn(locals))
	case code.Call:
		i.Arg = int64(r.Intn(len(argsOf)))
	case code.Host:
		i.Arg = int64(r.Intn(verify.Hosts))
	}
	return i
}

// anyFunc: straight on all is well, and jumps and branches go, if chance finds one, where as many values are.
func anyFunc(r *rand.Rand, args int) code.Func {
	f := code.Func{Args: args, Locals: max(args, 1) + r.Intn(17-max(args, 1))}
	var depths []int
	depth := 0
	put := func(i code.Instr) {
		f.Code, depths = append(f.Code, i), append(depths, depth)
		depth += leavesOf[i.Op.Name()] - takes(i)
	}
	for size := 5 + r.Intn(50); len(f.Code) < size; {
		i := anyInstr(r, f.Locals)
		if depth >= takes(i) && depth < 60 && i.Op != code.Ret && i.Op != code.Jump {
			put(i)
		}
	}
	for depth > 1 {
		put(of(code.Add))
	}
	if depth == 0 {
		put(of(code.Load, 0))
	}
	put(of(code.Ret))
	for at, i := range f.Code {
		if i.Op != code.Branch {
			continue
		}
		to := r.Intn(len(f.Code))
		for tries := 0; tries < 100 && depths[to] != depths[at]-1; tries++ {
			to = r.Intn(len(f.Code))
		}
		f.Code[at].Arg = int64(to)
	}
	return f
}

// anyImage: one that may be run.
func anyImage(r *rand.Rand) code.Image {
	for {
		var m code.Image
		for _, args := range argsOf {
			m.Funcs = append(m.Funcs, anyFunc(r, args))
		}
		if _, e := verify.Check(m); e == api.OK {
			return m
		}
	}
}

// newTeller: now and then it can't, but always of the same calls.
func newTeller() *teller {
	return &teller{fails: func(call int, args []int64) bool { return (toldOf(call, args)/7)%19 == 3 }}
}

// anyRun: a function's number, its arguments, and fuel.
func anyRun(r *rand.Rand) (fuel, fn int, args []int64) {
	fn = r.Intn(len(argsOf))
	for range argsOf[fn] {
		args = append(args, int64(r.Intn(9))-2)
	}
	return r.Intn(300) - 5, fn, args
}

func heapOf(cells []int64) string {
	h := new(frame.Heap)
	for n, x := range cells {
		h.Put(int64(n), x)
	}
	return h.Text()
}

// P7.1, P7.2, P7.3: runs by chance, several on one machine, against the slow ones.
func TestAgainstSlow(t *testing.T) {
	r := rand.New(rand.NewSource(17))
	ends := map[Trap]int{}
	for range 1500 {
		seed := r.Uint64()
		m := &Machine{Heap: new(frame.Heap), Dice: dice.New(seed), Image: anyImage(r), Host: newTeller()}
		s := &slow{t: t, image: m.Image, cells: make([]int64, 64), dice: dice.New(seed), host: newTeller()}
		for range 6 {
			fuel, fn, args := anyRun(r)
			got := m.Run(fuel, fn, args...)
			s.fuel, s.steps, s.frames = max(fuel, 0), 0, 0
			want := s.run(fn, args)
			if got != want {
				t.Fatalf("%+v: function %d of %v, fuel %d: %+v, not %+v", m.Image, fn, args, fuel, got, want)
			}
			if m.Heap.Text() != heapOf(s.cells) || m.State() != s.dice.State() {
				t.Fatalf("%+v: function %d of %v, fuel %d: heap or dice are unlike", m.Image, fn, args, fuel)
			}
			if !reflect.DeepEqual(m.Host.(*teller).calls, s.host.calls) {
				t.Fatalf("%+v: function %d of %v, fuel %d: the host was asked otherwise", m.Image, fn, args, fuel)
			}
			ends[got.Trap]++
		}
	}
	for trap := Done; trap <= Bad; trap++ {
		if ends[trap] < 20 {
			t.Errorf("chance has no ends: %v", ends)
		}
	}
}

// P7.3, P6: ahead of each instruction each call has as many values as layer 4 says, and 16 calls are the most.
func TestNeverLacks(t *testing.T) {
	r := rand.New(rand.NewSource(18))
	for range 500 {
		m := &Machine{Heap: new(frame.Heap), Dice: dice.New(r.Uint64()), Image: anyImage(r), Host: newTeller()}
		var depths [][]int
		for fn := range m.Image.Funcs {
			l, ok := verify.Depths(m.Image, fn)
			if !ok {
				t.Fatalf("function %d isn't sound", fn)
			}
			depths = append(depths, l)
		}
		_, fn, args := anyRun(r)
		u := &run{machine: m}
		u.enter(fn, args)
		for range 400 {
			last := len(u.calls) - 1
			for k, f := range u.calls {
				want := depths[f.Func][f.At]
				if k < last {
					want-- // its call hasn't answered yet
				}
				if f.Len() != want || f.Len() > 64 {
					t.Fatalf("%+v: function %d at %d: %d values, not %d", m.Image, f.Func, f.At, f.Len(), want)
				}
			}
			if len(u.calls) > 16 {
				t.Fatalf("%d calls", len(u.calls))
			}
			if trap := u.step(); trap != Done || len(u.calls) == 0 {
				if trap == Fuel || trap.Word() == "?" {
					t.Fatalf("%+v: trap %d", m.Image, trap)
				}
				break
			}
		}
	}
}

// P7.2: the same machine comes to the same, within its fuel; a trap has no value.
func TestSameAgain(t *testing.T) {
	r := rand.New(rand.NewSource(19))
	for range 500 {
		image, seed := anyImage(r), r.Uint64()
		fuel, fn, args := anyRun(r)
		var seen string
		for range 3 {
			m := &Machine{Heap: new(frame.Heap), Dice: dice.New(seed), Image: image, Host: newTeller()}
			got := m.Run(fuel, fn, args...)
			now := fmt.Sprintf("%+v %q %x %+v", got, m.Heap.Text(), m.State(), m.Host.(*teller).calls)
			if seen != "" && now != seen {
				t.Fatalf("%s, then %s", seen, now)
			}
			seen = now
			if got.Steps > max(fuel, 0) {
				t.Fatalf("fuel %d: %+v", fuel, got)
			}
			if got.Trap != Done && got.Value != 0 {
				t.Fatalf("a trap with a value: %+v", got)
			}
		}
	}
}

// P7.2: with more fuel a run that ended ends in the same way; with less than it took, it is Fuel.
func TestMoreAndLessFuel(t *testing.T) {
	r := rand.New(rand.NewSource(20))
	for range 300 {
		image, seed := anyImage(r), r.Uint64()
		_, fn, args := anyRun(r)
		start := func(fuel int) Result {
			m := &Machine{Heap: new(frame.Heap), Dice: dice.New(seed), Image: image, Host: newTeller()}
			return m.Run(fuel, fn, args...)
		}
		whole := start(400)
		for _, fuel := range []int{whole.Steps - 1, whole.Steps, min(whole.Steps+1, 400), r.Intn(400)} {
			want := whole
			if fuel < whole.Steps {
				want = Result{Trap: Fuel, Steps: fuel}
			}
			if got := start(fuel); got != want {
				t.Fatalf("%+v: fuel %d: %+v, not %+v", image, fuel, got, want)
			}
		}
	}
}

// --- rules ---

// K3: no run changes the image, or the arguments, nor keeps these.
func TestHandedInStays(t *testing.T) {
	r := rand.New(rand.NewSource(21))
	for range 200 {
		m := &Machine{Heap: new(frame.Heap), Dice: dice.New(1), Image: anyImage(r), Host: newTeller()}
		before := code.Image{}
		for _, f := range m.Image.Funcs {
			before.Funcs = append(before.Funcs, code.Make(f.Args, f.Locals, f.Code...))
		}
		fuel, fn, args := anyRun(r)
		was := slices.Clone(args)
		m.Run(fuel, fn, args...)
		if !slices.Equal(args, was) || !reflect.DeepEqual(m.Image, before) {
			t.Fatalf("changed: %v, %+v", args, m.Image)
		}
	}
	args := []int64{1, 2}
	m := machine(t, code.Make(2, 2, of(code.Push, 9), of(code.Store, 0), of(code.Load, 0), of(code.Load, 1), of(code.Host, 2), of(code.Ret)))
	if r := m.Run(99, 2, args...); r.Trap != Done || !slices.Equal(args, []int64{1, 2}) {
		t.Errorf("%+v, %v", r, args)
	}
}

// K6: what the chapter rules out ends all the same, without a panic.
func TestWhatMayNotBe(t *testing.T) {
	m := machine(t, code.Make(0, 0, of(code.Push), of(code.Ret)))
	for _, fn := range []int{-1, 3, math.MinInt, math.MaxInt} {
		if r := m.Run(9, fn); r.Steps > 9 || r.Trap == Done {
			t.Errorf("function %d: %+v", fn, r)
		}
	}
	for _, args := range [][]int64{nil, {1, 2}, make([]int64, 100)} {
		if r := m.Run(9, 0, args...); r.Trap != Done || r.Steps != 2 {
			t.Errorf("%d arguments: %+v", len(args), r)
		}
	}
	r := rand.New(rand.NewSource(22))
	for range 20000 {
		m.Image.Funcs[2] = code.Func{Args: r.Intn(20) - 2, Locals: r.Intn(20) - 2}
		for range r.Intn(8) {
			i := code.Instr{Op: code.Op(r.Intn(25)), Arg: int64(r.Intn(10)) - 2}
			if r.Intn(20) == 0 {
				i.Arg = edges[r.Intn(len(edges))]
			}
			m.Image.Funcs[2].Code = append(m.Image.Funcs[2].Code, i)
		}
		if got := m.Run(50, 2, 1, 2); got.Steps > 50 || got.Trap.Word() == "?" {
			t.Fatalf("%+v: %+v", m.Image.Funcs[2], got)
		}
	}
}
