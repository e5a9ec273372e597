package world

import (
	"maps"
	"math"
	"math/rand"
	"reflect"
	"slices"
	"strings"
	"testing"

	"cotillion/api"
	"cotillion/code"
	"cotillion/dice"
	"cotillion/frame"
	"cotillion/order"
	"cotillion/sums"
	"cotillion/unit"
	"cotillion/verify"
	"cotillion/vm"
	"cotillion/wire"
)

const most = 1 << 40 // the greatest number in a world's bytes, of the chapter

var of = code.Of

type instrs = []code.Instr

func join(parts ...instrs) instrs {
	return slices.Concat(parts...)
}

func push(l ...int64) instrs {
	var out instrs
	for _, x := range l {
		out = append(out, of(code.Push, x))
	}
	return out
}

// ret: the end of a function that has no value yet.
func ret() instrs {
	return instrs{of(code.Push, 0), of(code.Ret)}
}

// keep: the last value goes into a cell.
func keep(cell int64) instrs {
	return instrs{of(code.Push, cell), of(code.Put)}
}

// image: of these two functions, with some locals more.
func image(turn, each instrs, more ...code.Func) code.Image {
	return code.Image{Funcs: append([]code.Func{code.Make(1, 8, turn...), code.Make(4, 8, each...)}, more...)}
}

// idle does nothing.
func idle() code.Image {
	return image(ret(), ret())
}

func start(t *testing.T, m code.Image, seed uint64) *World {
	t.Helper()
	w, e := New(m, seed)
	if e != api.OK {
		t.Fatalf("New: %d", e)
	}
	return w
}

func play(t *testing.T, w *World, l ...Play) {
	t.Helper()
	if e := w.Play(l...); e != api.OK {
		t.Fatalf("Play: %d", e)
	}
}

func cell(w *World, n int64) int64 {
	x, _ := w.heap.Get(n)
	return x
}

// build: so many orders that are never refused; their numbers, from 0 on, are their kinds.
func build(n int) order.Batch {
	var b order.Batch
	for k := range n {
		b = append(b, order.Order{Kind: order.Build, A: int64(k)})
	}
	return b
}

// ends: how often code ended by each trap.
func ends(w *World) [6]int {
	var l [6]int
	for t := range l {
		l[t] = w.Ends(vm.Trap(t))
	}
	return l
}

// --- a new one ---

func TestNumbers(t *testing.T) {
	if Fuel != 2000 || Nobody != 255 {
		t.Error("a number is another one")
	}
}

// P10.1: New, of several seeds: nothing was played.
func TestNew(t *testing.T) {
	for _, seed := range []uint64{0, 1, 5, 1 << 40, 1<<40 + 1, math.MaxUint64} {
		w := start(t, idle(), seed)
		if w.Turn() != 0 || w.Refused() != 0 || ends(w) != [6]int{} || w.Len() != 0 || w.Next() != 1 {
			t.Errorf("seed %d: %+v", seed, w)
		}
		if want := "\x00" + dice.New(seed).Text() + "\x00\x01\x00\x00\x00\x00\x00\x00\x00\x00"; w.Text() != want {
			t.Errorf("seed %d: %q, not %q", seed, w.Text(), want)
		}
	}
}

// wrongImages may not be run.
func wrongImages() []code.Image {
	good := idle()
	return []code.Image{
		{},
		{Funcs: good.Funcs[:1]},
		{Funcs: []code.Func{good.Funcs[1], good.Funcs[0]}},
		image(instrs{of(code.Ret)}, ret()),
		image(ret(), push(1)),
		image(ret(), instrs{of(code.Host, 7), of(code.Ret)}),
		image(ret(), ret(), make([]code.Func, 15)...),
	}
}

// P10.1: New and Restore of images that may not be run, ahead of whatever the bytes say.
func TestWrongImages(t *testing.T) {
	good := start(t, idle(), 1).Text()
	for k, m := range wrongImages() {
		if w, e := New(m, 1); w != nil || e != api.ErrCode {
			t.Errorf("image %d: New: %v, %d", k, w, e)
		}
		for _, s := range []string{good, "", good + "x", "\x80\x00"} {
			if w, e := Restore(m, s); w != nil || e != api.ErrCode {
				t.Errorf("image %d: Restore: %v, %d", k, w, e)
			}
		}
	}
}

// K3: an image isn't changed, nor kept: what is done to its lists later doesn't show.
func TestImageStays(t *testing.T) {
	made := func() code.Image { return image(join(push(7), keep(0), ret()), join(push(8), keep(1), ret())) }
	m := made()
	a := start(t, m, 3)
	b, _ := Restore(m, a.Text())
	play(t, a, Play{1, build(1)})
	if !reflect.DeepEqual(m, made()) {
		t.Fatalf("changed: %+v", m)
	}
	c := start(t, made(), 3)
	play(t, c, Play{1, build(1)})
	m.Funcs[0].Code[0] = of(code.Push, 99)
	m.Funcs[1] = code.Func{}
	play(t, a, Play{1, build(1)})
	play(t, b, Play{1, build(1)})
	play(t, b, Play{1, build(1)})
	play(t, c, Play{1, build(1)})
	if a.Text() != c.Text() || b.Text() != c.Text() {
		t.Errorf("%q, %q, not %q", a.Text(), b.Text(), c.Text())
	}
}

// K3: batches aren't changed, nor kept.
func TestBatchStays(t *testing.T) {
	w := start(t, image(ret(), join(instrs{of(code.Load, 2)}, keep(0), ret())), 3)
	l := []Play{{1, build(3)}, {2, build(8)}}
	play(t, w, l...)
	if !reflect.DeepEqual(l, []Play{{1, build(3)}, {2, build(8)}}) {
		t.Errorf("changed: %+v", l)
	}
	was := w.Text()
	l[1].Batch[0] = order.Order{Kind: 99}
	if w.Text() != was {
		t.Errorf("kept: %q", w.Text())
	}
}

// P10.1: the chapter's example.
func TestExample(t *testing.T) {
	w := start(t, idle(), 9)
	play(t, w)
	if w.Turn() != 1 || ends(w) != [6]int{1} || w.Refused() != 0 {
		t.Errorf("%d, %v", w.Turn(), ends(w))
	}
	if w.Text() != "\x01\x09\x00\x01\x00\x00\x01\x00\x00\x00\x00\x00" {
		t.Errorf("%q", w.Text())
	}
}

// --- what the host does ---

// asking: a world in which two units stand (of player 3: number 1 of kind 7 at 5, -6; number 2 of kind 9 at 0, 1), and the turn asks the host for a call, and keeps its answer in cell 0, which was 77.
func asking(t *testing.T, call int64, args ...int64) *World {
	t.Helper()
	w := start(t, image(join(push(args...), instrs{of(code.Host, call)}, keep(0), ret()), ret()), 1)
	w.Spawn(7, 3, 5, -6)
	w.Spawn(9, 3, 0, 1)
	w.heap.Put(0, 77)
	return w
}

// asked: what the host answered, and how the units stand then; false: it couldn't.
func asked(t *testing.T, call int64, args ...int64) (int64, []unit.Unit, bool) {
	t.Helper()
	w := asking(t, call, args...)
	play(t, w)
	switch ends(w) {
	case [6]int{vm.Done: 1}:
		return cell(w, 0), w.All(), true
	case [6]int{vm.Bad: 1}:
		if cell(w, 0) != 77 || !reflect.DeepEqual(w.All(), asking(t, call, args...).All()) {
			t.Errorf("call %d of %v: it couldn't, and something changed", call, args)
		}
		return 0, nil, false
	}
	t.Fatalf("call %d of %v: %v", call, args, ends(w))
	return 0, nil, false
}

var (
	first  = unit.Unit{Id: 1, Fields: [5]int64{7, 3, 5, -6, 1000}}
	second = unit.Unit{Id: 2, Fields: [5]int64{9, 3, 0, 1, 1000}}
)

// P10.1: call 0: Spawn, of kind, x, y, of who plays.
func TestHostSpawn(t *testing.T) {
	for _, c := range []struct {
		kind, x, y int64
		want       int64
	}{
		{1, 2, 3, 3}, {0, -1000, 1000, 3}, {255, 1000, -1000, 3},
		{-1, 0, 0, 0}, {256, 0, 0, 0}, {1, 1001, 0, 0}, {1, -1001, 0, 0}, {1, 0, 1001, 0}, {1, 0, -1001, 0}, {math.MinInt64, math.MaxInt64, 0, 0},
	} {
		want := []unit.Unit{first, second}
		if c.want != 0 {
			want = append(want, unit.Unit{Id: 3, Fields: [5]int64{c.kind, 255, c.x, c.y, 1000}})
		}
		if x, l, ok := asked(t, 0, c.kind, c.x, c.y); !ok || x != c.want || !slices.Equal(l, want) {
			t.Errorf("%+v: %d, %+v, %v", c, x, l, ok)
		}
	}
}

// P10.1: call 0 of each player, and when there is no room for one more.
func TestHostSpawnOwners(t *testing.T) {
	spawn := join(push(4, 5, 6), instrs{of(code.Host, 0)}, keep(0), ret())
	w := start(t, image(spawn, spawn), 1)
	var l []Play
	for p := range 32 {
		l = append(l, Play{p, build(1)})
	}
	play(t, w, l...)
	for k, u := range w.All() {
		owner := int64(k)
		if k == 32 {
			owner = 255
		}
		if u != (unit.Unit{Id: int64(k + 1), Fields: [5]int64{4, owner, 5, 6, 1000}}) {
			t.Errorf("%+v", u)
		}
	}
	if w.Len() != 33 || cell(w, 0) != 33 {
		t.Errorf("%d units", w.Len())
	}
	play(t, w, l[:31]...)
	if w.Len() != 64 || cell(w, 0) != 0 || w.Next() != 65 { // the turn's own is one too many
		t.Errorf("%d units, %d", w.Len(), cell(w, 0))
	}
}

// P10.1: call 1: Kill.
func TestHostKill(t *testing.T) {
	for id, want := range map[int64][]unit.Unit{1: {second}, 2: {first}, 0: {first, second}, 3: {first, second}, -1: {first, second}, math.MinInt64: {first, second}, 1<<32 + 1: {first, second}} {
		x, l, ok := asked(t, 1, id)
		if !ok || x != int64(2-len(want)) || !slices.Equal(l, want) {
			t.Errorf("%d: %d, %+v, %v", id, x, l, ok)
		}
	}
}

// P10.1: call 2: each field of each unit, and none of those that aren't there.
func TestHostField(t *testing.T) {
	for _, u := range []unit.Unit{first, second} {
		for field, want := range u.Fields {
			if x, l, ok := asked(t, 2, u.Id, int64(field)); !ok || x != want || len(l) != 2 {
				t.Errorf("field %d of %d: %d, %v", field, u.Id, x, ok)
			}
		}
		for _, field := range []int64{-1, 5, 6, math.MinInt64, math.MaxInt64, 1 << 32, 1<<32 + 2, 256} {
			if x, _, ok := asked(t, 2, u.Id, field); ok {
				t.Errorf("field %d of %d: %d", field, u.Id, x)
			}
		}
	}
	for _, id := range []int64{0, 3, -1, math.MinInt64, math.MaxInt64, 1<<32 + 1} {
		for _, field := range []int64{-1, 0, 4, 5} {
			if x, _, ok := asked(t, 2, id, field); ok {
				t.Errorf("field %d of %d: %d", field, id, x)
			}
		}
	}
}

// P10.1: call 3: Set, of a unit, a field, a number.
func TestHostSet(t *testing.T) {
	for _, c := range []struct {
		id, field, x int64
		want         int64
	}{
		{1, 2, 1000, 1}, {1, 2, -1000, 1}, {1, 3, 8, 1}, {1, 4, 1, 1}, {1, 4, 1000, 1},
		{1, 4, 0, 1}, {1, 4, -5, 1}, {1, 4, math.MinInt64, 1}, // it goes
		{1, 0, 8, 0}, {1, 1, 8, 0}, {1, -1, 8, 0}, {1, 5, 8, 0}, {1, math.MaxInt64, 8, 0}, {1, math.MinInt64, 8, 0}, {1, 1<<32 + 2, 8, 0},
		{1, 2, 1001, 0}, {1, 3, -1001, 0}, {1, 4, 1001, 0},
		{0, 2, 8, 0}, {3, 2, 8, 0}, {-1, 4, 0, 0}, {3, 4, 0, 0},
	} {
		u, want := first, []unit.Unit{second}
		if c.want == 1 {
			u.Fields[c.field] = c.x
		}
		if c.field != 4 || u.Fields[4] > 0 {
			want = []unit.Unit{u, second}
		}
		if x, l, ok := asked(t, 3, c.id, c.field, c.x); !ok || x != c.want || !slices.Equal(l, want) {
			t.Errorf("%+v: %d, %+v, %v", c, x, l, ok)
		}
	}
}

// P10.1: calls 4 and 5: how many units, and the number of the n-th.
func TestHostLenAndNth(t *testing.T) {
	if x, l, ok := asked(t, 4); !ok || x != 2 || len(l) != 2 {
		t.Errorf("%d, %v", x, ok)
	}
	for n, want := range map[int64]int64{-1: 0, 0: 1, 1: 2, 2: 0, math.MinInt64: 0, math.MaxInt64: 0, 1 << 32: 0} {
		if x, l, ok := asked(t, 5, n); !ok || x != want || len(l) != 2 {
			t.Errorf("%d: %d, %v", n, x, ok)
		}
	}
	w := asking(t, 5, 0)
	w.Kill(1)
	play(t, w)
	if cell(w, 0) != 2 {
		t.Errorf("the first one behind a Kill: %d", cell(w, 0))
	}
}

// P10.1: call 6: the player who plays: each, and Nobody behind all.
func TestHostPlayer(t *testing.T) {
	if x, _, ok := asked(t, 6); !ok || x != 255 {
		t.Errorf("%d, %v", x, ok)
	}
	tell := func(cell int64) instrs { return join(instrs{of(code.Host, 6)}, keep(cell), ret()) }
	for _, p := range []int{0, 1, 30, 31} {
		w := start(t, image(tell(0), tell(1)), 1)
		w.heap.Put(1, 77)
		play(t, w, Play{p, build(1)})
		if cell(w, 1) != int64(p) || cell(w, 0) != 255 {
			t.Errorf("player %d: %d, %d", p, cell(w, 1), cell(w, 0))
		}
	}
}

// K6: what code that may be run never asks for.
func TestNoSuchCall(t *testing.T) {
	h := &host{Table: unit.New()}
	for _, call := range []int{-1, 7, math.MinInt, math.MaxInt} {
		if x, ok := h.Do(call, 1, 2, 3); x != 0 || ok {
			t.Errorf("call %d: %d, %v", call, x, ok)
		}
	}
}

// --- a turn ---

// P10.1: what function 1 is called of, and function 0.
func TestArguments(t *testing.T) {
	var each instrs
	for k := range int64(4) {
		each = join(each, instrs{of(code.Load, k)}, keep(1+k))
	}
	turn := join(instrs{of(code.Load, 0)}, keep(0), ret())
	w := start(t, image(turn, join(each, ret())), 1)
	w.Spawn(1, 5, 0, 0)
	w.Spawn(1, 6, 0, 0)
	for k, c := range []struct {
		player int
		o      order.Order
	}{
		{5, order.Order{Kind: order.Move, Unit: 1, A: -7, B: 900}},
		{5, order.Order{Kind: order.Hit, Unit: 1, A: 2}},
		{6, order.Order{Kind: order.Hit, Unit: 2, A: 1}},
		{5, order.Order{Kind: order.Build, A: 255, B: -1000}},
		{6, order.Order{Kind: order.Halt, Unit: 2}},
	} {
		play(t, w, Play{c.player, order.Batch{c.o}})
		got := []int64{cell(w, 1), cell(w, 2), cell(w, 3), cell(w, 4)}
		if want := []int64{c.o.Unit, int64(c.o.Kind), c.o.A, c.o.B}; !slices.Equal(got, want) {
			t.Errorf("%+v: %v", c.o, got)
		}
		if cell(w, 0) != int64(k+1) || w.Turn() != k+1 {
			t.Errorf("turn %d: %d", k+1, cell(w, 0))
		}
	}
	if ends(w) != [6]int{10} || w.Refused() != 0 {
		t.Errorf("%v", ends(w))
	}
}

// shift: cell 0 is a row of digits, base 256, to which the last value comes.
func shift(value instrs) instrs {
	return join(push(0), instrs{of(code.Get)}, push(256), instrs{of(code.Mul)}, value, instrs{of(code.Add)}, keep(0), ret())
}

// P10.1: player by player, order by order, then the turn itself.
func TestOrderOfRuns(t *testing.T) {
	w := start(t, image(shift(instrs{of(code.Host, 6)}), shift(instrs{of(code.Load, 2)})), 1)
	one := func(kinds ...int64) order.Batch {
		var b order.Batch
		for _, k := range kinds {
			b = append(b, order.Order{Kind: order.Build, A: k})
		}
		return b
	}
	play(t, w, Play{0, one(9, 3)}, Play{4, nil}, Play{5, one(7)}, Play{31, one(1, 2)})
	if cell(w, 0) != 0x0903070102ff {
		t.Errorf("%x", cell(w, 0))
	}
	if ends(w) != [6]int{6} {
		t.Errorf("%v", ends(w))
	}
}

// P10.1: orders that are refused, of each error of layer 9; their code doesn't run.
func TestRefused(t *testing.T) {
	count := join(push(0), instrs{of(code.Get)}, push(1), instrs{of(code.Add)}, keep(0), ret())
	for _, c := range []struct {
		o    order.Order
		runs bool
	}{
		{order.Order{Kind: order.Move, Unit: 1}, true},
		{order.Order{Kind: order.Move, Unit: 2}, false}, // another's
		{order.Order{Kind: order.Move, Unit: 4}, false}, // none
		{order.Order{Kind: order.Halt, Unit: 1}, true},
		{order.Order{Kind: order.Halt, Unit: 2}, false},
		{order.Order{Kind: order.Halt, Unit: most - 1}, false},
		{order.Order{Kind: order.Hit, Unit: 1, A: 2}, true},
		{order.Order{Kind: order.Hit, Unit: 1, A: 3}, false}, // its own
		{order.Order{Kind: order.Hit, Unit: 1, A: 1}, false},
		{order.Order{Kind: order.Hit, Unit: 1, A: 4}, false},
		{order.Order{Kind: order.Hit, Unit: 2, A: 1}, false},
		{order.Order{Kind: order.Hit, Unit: 4, A: 2}, false},
		{order.Order{Kind: order.Build}, true},
	} {
		w := start(t, image(ret(), count), 1)
		w.Spawn(1, 5, 0, 0)
		w.Spawn(1, 6, 0, 0)
		w.Spawn(1, 5, 0, 0)
		units := w.All()
		play(t, w, Play{5, order.Batch{c.o}})
		want := 0
		if c.runs {
			want = 1
		}
		if cell(w, 0) != int64(want) || w.Refused() != 1-want || ends(w) != [6]int{1 + want} || w.Turn() != 1 {
			t.Errorf("%+v: ran %d, refused %d, %v", c.o, cell(w, 0), w.Refused(), ends(w))
		}
		if !slices.Equal(w.All(), units) {
			t.Errorf("%+v: the units have changed", c.o)
		}
	}
}

// P10.1: whether an order may be is asked behind all those ahead of it, of the same turn.
func TestRefusedBehindOthers(t *testing.T) {
	// Build spawns one; any other order kills its unit.
	each := join(instrs{of(code.Load, 1)}, push(order.Build), instrs{of(code.Eq), of(code.Branch, 9)},
		push(1, 0, 0), instrs{of(code.Host, 0), of(code.Ret)},
		instrs{of(code.Load, 0), of(code.Host, 1), of(code.Ret)})
	w := start(t, image(ret(), each), 1)
	halt := order.Order{Kind: order.Halt, Unit: 1}
	play(t, w, Play{5, order.Batch{halt, build(1)[0], halt, halt}}, Play{6, order.Batch{halt}})
	if w.Refused() != 3 || w.Len() != 0 || w.Next() != 2 || ends(w) != [6]int{3} {
		t.Errorf("%d refused, %d units, next %d, %v", w.Refused(), w.Len(), w.Next(), ends(w))
	}
	play(t, w, Play{6, order.Batch{halt}}, Play{7, order.Batch{halt}})
	if w.Refused() != 5 {
		t.Errorf("%d refused", w.Refused())
	}
}

// P10.1: what was done ahead of a trap stays; a trap of one order doesn't hold up the others.
func TestTrapGoesOn(t *testing.T) {
	each := join(instrs{of(code.Load, 2)}, keep(0), push(1, 2, 3), instrs{of(code.Host, 0), of(code.Pop)}, push(1, 0), instrs{of(code.Div)}, keep(0), ret())
	w := start(t, image(join(push(5), keep(1), ret()), each), 1)
	play(t, w, Play{2, build(3)})
	if cell(w, 0) != 2 || cell(w, 1) != 5 || w.Len() != 3 || ends(w) != [6]int{vm.Done: 1, vm.Zero: 3} {
		t.Errorf("%d, %d, %d units, %v", cell(w, 0), cell(w, 1), w.Len(), ends(w))
	}
}

// traps: code that ends by each, of a function that takes as many arguments as the one that is called again.
func traps(fn, args int64) []instrs {
	again := instrs{}
	for k := range args {
		again = append(again, of(code.Load, k))
	}
	return []instrs{
		vm.Done:   ret(),
		vm.Zero:   join(push(1, 0), instrs{of(code.Mod), of(code.Ret)}),
		vm.Fuel:   {of(code.Jump, 0), of(code.Ret)},
		vm.Frames: join(again, instrs{of(code.Call, fn), of(code.Ret)}),
		vm.Cell:   join(push(64), instrs{of(code.Get), of(code.Ret)}),
		vm.Bad:    join(push(1, 0), instrs{of(code.Host, 2), of(code.Ret)}),
	}
}

// P10.1: each trap is counted, of function 0 and of function 1, and no other one.
func TestTraps(t *testing.T) {
	for trap := vm.Done; trap <= vm.Bad; trap++ {
		w := start(t, image(traps(0, 1)[trap], ret()), 1)
		for n := range 3 {
			play(t, w)
			var want [6]int
			want[trap] = n + 1
			if ends(w) != want || w.Turn() != n+1 {
				t.Errorf("trap %d: %v, not %v", trap, ends(w), want)
			}
		}
		w = start(t, image(ret(), traps(1, 4)[trap]), 1)
		play(t, w, Play{4, build(2)})
		var want [6]int
		want[trap] = 2
		if trap == vm.Fuel {
			want[vm.Fuel]++ // nothing is left for the turn itself
		} else {
			want[vm.Done]++
		}
		if ends(w) != want {
			t.Errorf("trap %d: %v, not %v", trap, ends(w), want)
		}
	}
}

// P10.1: Ends of what isn't a trap.
func TestEndsOfNone(t *testing.T) {
	w, e := Restore(idle(), worldBytes(1, 2, 3, 11, 12, 13, 14, 15, 16))
	if e != api.OK || ends(w) != [6]int{11, 12, 13, 14, 15, 16} {
		t.Fatalf("Restore: %d", e)
	}
	for _, trap := range []vm.Trap{-1, 6, 7, math.MinInt, math.MaxInt} {
		if n := w.Ends(trap); n != 0 {
			t.Errorf("Ends(%d): %d", trap, n)
		}
	}
}

// --- fuel ---

// counting: a loop without an end, 7 instructions a round, of which the sixth counts it in a cell.
func counting(cell int64) instrs {
	return join(push(cell), instrs{of(code.Get)}, push(1), instrs{of(code.Add)}, push(cell), instrs{of(code.Put), of(code.Jump, 0)}, ret())
}

// P10.4: a turn without orders has 2000 instructions, each turn anew.
func TestFuelOfATurn(t *testing.T) {
	w := start(t, image(counting(0), ret()), 1)
	for n := range int64(4) {
		play(t, w)
		if want := (n + 1) * 285; cell(w, 0) != want || w.Ends(vm.Fuel) != int(n+1) || w.Turn() != int(n+1) { // 2000 is 285 rounds, and 5 more
			t.Errorf("turn %d: %d rounds, not %d", n+1, cell(w, 0), want)
		}
	}
}

// steps: just so many instructions, the first ones given: what is left is filled with jumps to the next one.
func steps(n int, l ...code.Instr) instrs {
	for len(l) < n-2 {
		l = append(l, of(code.Jump, int64(len(l)+1)))
	}
	return join(l, ret())
}

// add: a cell is more by 1: 6 instructions.
func add(cell int64) instrs {
	return join(push(cell), instrs{of(code.Get)}, push(1), instrs{of(code.Add)}, keep(cell))
}

// orders: so many that aren't refused, 8 a player, the first players first.
func orders(n int) []Play {
	var l []Play
	for p := 0; n > 0; p++ {
		l = append(l, Play{p, build(min(n, 8))})
		n -= 8
	}
	return l
}

// P10.4: the orders and the turn have 2000 together: just enough, one too little, nothing left.
func TestFuelTogether(t *testing.T) {
	for _, c := range []struct {
		orders, each, turn int // how many, of how many instructions; how many the turn itself has
		done, fuel         int // how code ended
		ran, turned        int64
	}{
		{19, 100, 100, 20, 0, 19, 1},
		{19, 100, 101, 19, 1, 19, 1}, // one too little, but its first ones are done
		{20, 100, 100, 20, 1, 20, 0}, // nothing is left for the turn
		{20, 100, 2, 20, 1, 20, 0},
		{21, 100, 100, 20, 2, 20, 0}, // nor for the last order
		{30, 100, 100, 20, 11, 20, 0},
		{256, 100, 100, 20, 237, 20, 0},
		{21, 99, 100, 20, 2, 21, 0}, // 20 are left for the last order, which ends within
		{22, 99, 100, 20, 3, 21, 0}, // and none for the one behind it
		{23, 86, 22, 24, 0, 23, 1},  // 23 times 86 is 1978
		{23, 86, 23, 23, 1, 23, 1},
		{249, 8, 8, 250, 0, 249, 1}, // 249 times 8 is 1992
		{249, 8, 9, 249, 1, 249, 1},
		{250, 8, 8, 250, 1, 250, 0},
		{251, 8, 8, 250, 2, 250, 0},
		{0, 8, 128, 1, 0, 0, 1},
	} {
		turn := steps(c.turn, add(1)...)
		if c.turn < 8 {
			turn = ret()
		}
		w := start(t, image(turn, steps(c.each, add(0)...)), 1)
		for n := range 2 { // and each turn anew
			was := ends(w)
			play(t, w, orders(c.orders)...)
			got := ends(w)
			if got[vm.Done]-was[vm.Done] != c.done || got[vm.Fuel]-was[vm.Fuel] != c.fuel || w.Turn() != n+1 || w.Refused() != 0 {
				t.Errorf("%+v: %v, then %v", c, was, got)
			}
			if cell(w, 0) != c.ran*int64(n+1) || cell(w, 1) != c.turned*int64(n+1) {
				t.Errorf("%+v: %d ran, %d turned", c, cell(w, 0), cell(w, 1))
			}
		}
	}
}

// P10.4: what is refused takes none, and a trap as many as were done.
func TestFuelOfOthers(t *testing.T) {
	w := start(t, image(steps(100), steps(100)), 1)
	l := orders(19)
	for p := 3; p < 32; p++ {
		l = append(l, Play{p, slices.Repeat(order.Batch{{Kind: order.Halt, Unit: 5}}, 8)})
	}
	play(t, w, l...)
	if ends(w) != [6]int{20} || w.Refused() != 29*8 {
		t.Errorf("%v, %d refused", ends(w), w.Refused())
	}
	zero := join(steps(96)[:94], instrs{of(code.Push), of(code.Dup), of(code.Div), of(code.Ret)}) // its 97th is the last one
	w = start(t, image(steps(60), zero), 1)
	play(t, w, orders(20)...) // 20 times 97 is 1940
	if ends(w) != [6]int{vm.Done: 1, vm.Zero: 20} {
		t.Errorf("%v", ends(w))
	}
	play(t, w, orders(21)...)
	if ends(w) != [6]int{vm.Done: 1, vm.Zero: 40, vm.Fuel: 2} {
		t.Errorf("%v", ends(w))
	}
}

// P10.4: refused orders are refused whether fuel is left or not.
func TestRefusedWithoutFuel(t *testing.T) {
	w := start(t, image(ret(), traps(1, 4)[vm.Fuel]), 1)
	play(t, w, Play{0, append(build(2), order.Order{Kind: order.Halt, Unit: 7}, order.Order{Kind: order.Build})})
	if ends(w) != [6]int{vm.Fuel: 4} || w.Refused() != 1 || w.Turn() != 1 {
		t.Errorf("%v, %d refused", ends(w), w.Refused())
	}
}

// --- which plays may be ---

// wrongPlays: plays, and what Check says of them.
func wrongPlays() map[api.Errno][][]Play {
	nine, kind, arg := build(9), order.Batch{{Kind: 9}}, order.Batch{{Kind: order.Halt}}
	return map[api.Errno][][]Play{
		api.OK: {nil, {}, {{0, nil}}, {{31, build(8)}}, {{0, order.Batch{}}, {1, build(1)}, {31, nil}}},
		api.ErrPlayer: {
			{{-1, nil}}, {{32, nil}}, {{math.MinInt, nil}}, {{math.MaxInt, nil}}, {{255, nil}}, {{256, nil}},
			{{0, nil}, {32, nil}}, {{5, nil}, {-1, nil}}, // not above, too
			{{-1, nine}}, {{32, kind}}, {{31, nil}, {32, arg}},
			{{32, nil}, {1, nine}, {0, nil}}, // others behind it
		},
		api.ErrOrder: {
			{{0, nil}, {0, nil}}, {{1, nil}, {0, nil}}, {{31, nil}, {31, nil}}, {{3, nil}, {5, nil}, {4, nil}}, {{3, nil}, {5, nil}, {3, nil}},
			{{1, nil}, {1, nine}}, {{1, nil}, {0, kind}}, {{2, nil}, {1, nil}, {32, nil}},
		},
		api.ErrFull: {{{0, nine}}, {{0, nil}, {1, nine}}, {{0, append(build(8), kind...)}}, {{0, nine}, {0, kind}}, {{0, nine}, {32, nil}}},
		api.ErrKind: {{{0, kind}}, {{1, order.Batch{{}}}}, {{1, append(build(7), kind...)}}, {{0, append(kind[:1:1], arg...)}}, {{0, kind}, {32, nil}}, {{3, kind}, {1, nil}}, {{3, kind}, {4, nine}}},
		api.ErrArg:  {{{0, arg}}, {{0, nil}, {9, arg}}, {{0, append(arg[:1:1], kind...)}}, {{0, arg}, {-1, nil}}},
	}
}

// P10.1: Check, its edges, each error, and which of several is told.
func TestCheck(t *testing.T) {
	for want, rows := range wrongPlays() {
		for k, l := range rows {
			if e := Check(l...); e != want {
				t.Errorf("%d, row %d: %d", want, k, e)
			}
		}
	}
	var all []Play
	for p := range 32 {
		all = append(all, Play{p, build(8)})
	}
	if e := Check(all...); e != api.OK {
		t.Errorf("all: %d", e)
	}
}

// P10.4: Play has Check's errors, and then nothing is changed, whatever stands ahead of the one that is wrong.
func TestPlayErrors(t *testing.T) {
	spawn := join(push(1, 2, 3), instrs{of(code.Host, 0), of(code.Pop)}, push(9), instrs{of(code.Rand)}, keep(0), ret())
	w := start(t, image(spawn, spawn), 1)
	play(t, w, Play{1, build(2)})
	for want, rows := range wrongPlays() {
		for k, l := range rows {
			was, units := w.Text(), w.All()
			if e := w.Play(l...); e != want {
				t.Errorf("%d, row %d: %d", want, k, e)
			}
			if same := w.Text() == was && slices.Equal(w.All(), units); same != (want != api.OK) {
				t.Errorf("%d, row %d: the world has changed: %v", want, k, !same)
			}
		}
	}
}

// --- all of it, as bytes ---

// worldBytes: a world's bytes, of seed 5, with two cells and one unit, and these numbers.
func worldBytes(turns, dice, refused uint64, ends ...uint64) string {
	o := new(wire.Out).Num(turns, dice, 2).Int(-1, 300).Num(4, 1, 2).Int(9, 31, -1000, 7, 1)
	return o.Num(refused).Num(ends...).Text()
}

// P10.1: Text, byte by byte.
func TestText(t *testing.T) {
	each := join(push(300, 1), instrs{of(code.Put)}, push(-1), keep(0), instrs{of(code.Load, 2)}, push(4, 7), instrs{of(code.Host, 0), of(code.Ret)})
	w := start(t, image(join(push(64), instrs{of(code.Get), of(code.Ret)}), each), 5)
	play(t, w, Play{31, order.Batch{{Kind: order.Build, A: 9}, {Kind: order.Halt, Unit: 5}}})
	want := "\x01" + // turns
		"\x05" + // the dice
		"\x02\x01\xd8\x04" + // the heap: two cells, -1 and 300
		"\x02\x01\x01\x12\x3e\x08\x0e\xd0\x0f" + // the table: 2 comes next; one unit, 1: 9, 31, 4, 7, 1000
		"\x01" + // refused
		"\x01\x00\x00\x00\x01\x00"
	if w.Text() != want {
		t.Errorf("%q, not %q", w.Text(), want)
	}
	if w.Text() != want || w.Table.Text() != want[6:15] {
		t.Errorf("again: %q, %q", w.Text(), w.Table.Text())
	}
	if w.Hash() != sums.Of(want) || w.Hash() == start(t, idle(), 5).Hash() {
		t.Errorf("Hash: %x", w.Hash())
	}
}

// P10.1: each number at its greatest, and what is restored tells it.
func TestRestoreNumbers(t *testing.T) {
	for _, turns := range []uint64{0, 1, 300, most} {
		for _, seed := range []uint64{0, most, most + 1, math.MaxUint64} {
			s := worldBytes(turns, seed, most-turns, 1, most, 3, 4, 5, turns)
			w, e := Restore(idle(), s)
			if e != api.OK {
				t.Fatalf("%d, %d: %d", turns, seed, e)
			}
			if w.Turn() != int(turns) || w.Refused() != int(most-turns) || ends(w) != [6]int{1, most, 3, 4, 5, int(turns)} || w.dice.State() != seed {
				t.Errorf("%d, %d: %+v", turns, seed, w)
			}
			if w.Len() != 1 || w.Next() != 4 || cell(w, 0) != -1 || cell(w, 1) != 300 || w.Text() != s || w.Hash() != sums.Of(s) {
				t.Errorf("%d, %d: %+v", turns, seed, w)
			}
			if u, ok := w.Unit(2); !ok || u.Fields != [5]int64{9, 31, -1000, 7, 1} {
				t.Errorf("%+v, %v", u, ok)
			}
		}
	}
}

// P10.1: each error of the bytes, and which of several is told.
func TestRestoreErrors(t *testing.T) {
	good := worldBytes(1, 2, 3, 4, 5, 6, 7, 8, 9)
	num := func(l ...uint64) string { return new(wire.Out).Num(l...).Text() }
	for _, c := range []struct {
		s    string
		want api.Errno
	}{
		{good, api.OK},
		{"", api.ErrEnd},
		{good + "\x00", api.ErrForm},
		{good + good, api.ErrForm},
		{worldBytes(most+1, 2, 3, 4, 5, 6, 7, 8, 9), api.ErrBig},
		{worldBytes(math.MaxUint64, 2, 3, 4, 5, 6, 7, 8, 9), api.ErrBig},
		{worldBytes(1, 2, most+1, 4, 5, 6, 7, 8, 9), api.ErrBig},
		{worldBytes(1, 2, 3, most+1, 5, 6, 7, 8, 9), api.ErrBig},
		{worldBytes(1, 2, 3, 4, most+1, 6, 7, 8, 9), api.ErrBig},
		{worldBytes(1, 2, 3, 4, 5, 6, 7, most+1, 9), api.ErrBig},
		{worldBytes(1, 2, 3, 4, 5, 6, 7, 8, most+1), api.ErrBig},
		{worldBytes(1, 2, 3, 4, 5, 6, 7, 8), api.ErrEnd},
		{worldBytes(1, 2, 3, 4, 5, 6, 7, 8, 9, 10), api.ErrForm},
		// the heap's and the table's
		{num(1, 2, 65), api.ErrBig},
		{num(1, 2, 1, 0, 1, 0, 3, 4, 5, 6, 7, 8, 9), api.ErrForm}, // a last cell of 0
		{num(1, 2, 0, most+1), api.ErrBig},
		{num(1, 2, 0, 1, 65), api.ErrBig},
		{num(1, 2, 0, 0, 0, 3, 4, 5, 6, 7, 8, 9), api.ErrArg},                     // no number comes next
		{num(1, 2, 0, 1, 1, 1, 0, 0, 0, 0, 2, 3, 4, 5, 6, 7, 8, 9), api.ErrOrder}, // a unit that comes later
		{num(1, 2, 0, 2, 1, 1, 512, 0, 0, 0, 2, 3, 4, 5, 6, 7, 8, 9), api.ErrArg}, // its kind is 256
		{num(1, 2, 0, 2, 1, 1, 0, 0, 0, 0, 2, 3, 4, 5, 6, 7, 8, 9), api.OK},
		// several: the first one
		{num(most + 1), api.ErrBig},
		{num(most+1, 2, 65), api.ErrBig},
		{num(1, 2, 1, 0, 0), api.ErrForm},
		{num(1, 2, 1, 0, 0, 0, most+1), api.ErrForm},
		{num(1, 2, 0, 0, 0, most+1), api.ErrArg},
		{num(1, 2, 0, 1, 0, most+1) + "\x80\x00", api.ErrBig},
		{num(1, 2, 0, 1, 0, 3, 4, 5, 6, 7, 8, most+1) + "x", api.ErrBig},
		// a spelling that isn't the shortest one
		{"\x81\x00" + good[1:], api.ErrForm},
		{good[:1] + "\x82\x00" + good[2:], api.ErrForm},
		{good[:len(good)-1] + "\x89\x00", api.ErrForm},
	} {
		w, e := Restore(idle(), c.s)
		if e != c.want || (w == nil) != (c.want != api.OK) || w != nil && w.Text() != c.s {
			t.Errorf("%q: %d, not %d", c.s, e, c.want)
		}
	}
	for n := range len(good) {
		if w, e := Restore(idle(), good[:n]); w != nil || e != api.ErrEnd {
			t.Errorf("%d bytes: %v, %d", n, w, e)
		}
	}
}

// P10.1, P6: any bytes: an error and nothing, or a world that has just these bytes, and plays.
func TestRestoreAnyBytes(t *testing.T) {
	r := rand.New(rand.NewSource(41))
	m := anyImage(r)
	good := 0
	for range 30000 {
		b := []byte(worldBytes(uint64(r.Intn(300)), r.Uint64()>>r.Intn(64), uint64(r.Intn(3)), 1, 2, 3, 4, 5, 6))
		for range 1 + r.Intn(3) {
			b[r.Intn(len(b))] = byte(r.Intn(256) >> r.Intn(8))
		}
		b = b[:len(b)-r.Intn(2)*r.Intn(2)*r.Intn(len(b))]
		w, e := Restore(m, string(b))
		if (w == nil) != (e != api.OK) {
			t.Fatalf("%q: %v, %d", b, w, e)
		}
		if w == nil {
			continue
		}
		good++
		if w.Text() != string(b) {
			t.Fatalf("%q: %q", b, w.Text())
		}
		if e := w.Play(anyPlays(r)...); e != api.OK {
			t.Fatalf("%q: Play: %d", b, e)
		}
	}
	if good < 1000 {
		t.Errorf("chance has no worlds: %d", good)
	}
}

// --- by chance ---

// value: one value more, made of what code may ask for.
func value(r *rand.Rand) instrs {
	switch r.Intn(9) {
	case 0:
		return instrs{of(code.Load, int64(r.Intn(8)))}
	case 1:
		return instrs{of(code.Host, 4)}
	case 2:
		return instrs{of(code.Host, 6)}
	case 3:
		return join(push(int64(r.Intn(12))), instrs{of(code.Rand)})
	case 4:
		return join(push(int64(r.Intn(4))), instrs{of(code.Get)})
	case 5:
		return push(int64(r.Intn(2400) - 1200))
	}
	return push(int64(r.Intn(8) - 1))
}

// someUnit: the number of one that is there, most often.
func someUnit(r *rand.Rand) instrs {
	if r.Intn(12) == 0 {
		return value(r)
	}
	return join(instrs{of(code.Host, 4), of(code.Rand), of(code.Host, 5)})
}

// deed: instructions that leave no value behind.
func deed(r *rand.Rand) instrs {
	pop := instrs{of(code.Pop)}
	switch r.Intn(10) {
	case 0, 1:
		return join(value(r), value(r), value(r), instrs{of(code.Host, 0)}, keep(int64(r.Intn(4))))
	case 2:
		return join(someUnit(r), instrs{of(code.Host, 1)}, pop)
	case 3:
		return join(someUnit(r), push(int64(r.Intn(25)%6)), instrs{of(code.Host, 2), of(code.Store, int64(4+r.Intn(4)))})
	case 4, 5:
		return join(someUnit(r), push(int64(2+r.Intn(3))), value(r), instrs{of(code.Host, 3)}, keep(int64(r.Intn(4))))
	case 6:
		ops := []code.Op{code.Add, code.Sub, code.Mul, code.Div, code.Mod, code.Less, code.Eq}
		return join(value(r), value(r), instrs{of(ops[r.Intn(len(ops))])}, keep(int64(r.Intn(4))))
	case 7:
		return join(value(r), value(r), instrs{of(code.Put)}) // into any cell, or none
	case 8:
		return join(value(r), instrs{of(code.Store, int64(r.Intn(8)))})
	}
	return join(someUnit(r), keep(int64(r.Intn(4))))
}

// anyCode: deeds, some of which are left out, and at times a way back to the first one, or a call.
func anyCode(r *rand.Rand) instrs {
	var l instrs
	for range 1 + r.Intn(6) {
		d := deed(r)
		if r.Intn(4) == 0 {
			l = join(l, value(r))
			d = join(instrs{of(code.Branch, int64(len(l)+1+len(d)))}, d)
		}
		l = join(l, d)
	}
	switch r.Intn(6) {
	case 0:
		l = join(l, push(int64(2+r.Intn(30))), instrs{of(code.Rand), of(code.Not), of(code.Branch, 0)})
	case 1:
		l = join(l, value(r), instrs{of(code.Call, 2), of(code.Pop)})
	}
	return join(l, ret())
}

func anyImage(r *rand.Rand) code.Image {
	return image(anyCode(r), anyCode(r), code.Make(1, 8, anyCode(r)...))
}

// anyPlays: of some players, that may be.
func anyPlays(r *rand.Rand) []Play {
	var l []Play
	for p := range 4 {
		if r.Intn(3) == 0 {
			continue
		}
		var b order.Batch
		for range r.Intn(6) {
			b = append(b, anyOrder(r))
		}
		l = append(l, Play{p, b})
	}
	return l
}

func anyOrder(r *rand.Rand) order.Order {
	id := int64(1 + r.Intn(20)>>r.Intn(4))
	switch r.Intn(5) {
	case 0:
		return order.Order{Kind: order.Move, Unit: id, A: int64(r.Intn(2001) - 1000), B: int64(r.Intn(20) - 10)}
	case 1:
		return order.Order{Kind: order.Hit, Unit: id, A: int64(1 + r.Intn(9))}
	case 2:
		return order.Order{Kind: order.Halt, Unit: id}
	}
	return order.Order{Kind: order.Build, A: int64(r.Intn(256)), B: int64(r.Intn(2001) - 1000)}
}

// slow is a world in the chapter's words, with its units in a map.
type slow struct {
	image          code.Image
	heap           *frame.Heap
	dice           *dice.Dice
	units          map[int64][5]int64
	next           int64
	turns, refused int
	ends           [6]int
	player         int64
	left           int
}

func newSlow(m code.Image, seed uint64) *slow {
	return &slow{image: m, heap: new(frame.Heap), dice: dice.New(seed), units: map[int64][5]int64{}, next: 1}
}

func within(x, least, greatest int64) bool {
	return least <= x && x <= greatest
}

func one(ok bool) int64 {
	if ok {
		return 1
	}
	return 0
}

func (s *slow) ids() []int64 {
	return slices.Sorted(maps.Keys(s.units))
}

func (s *slow) Do(call int, args ...int64) (int64, bool) {
	switch call {
	case 0:
		if len(s.units) == 64 || !within(args[0], 0, 255) || !within(args[1], -1000, 1000) || !within(args[2], -1000, 1000) {
			return 0, true
		}
		s.units[s.next] = [5]int64{args[0], s.player, args[1], args[2], 1000}
		s.next++
		return s.next - 1, true
	case 1:
		_, ok := s.units[args[0]]
		delete(s.units, args[0])
		return one(ok), true
	case 2:
		u, ok := s.units[args[0]]
		if !ok || !within(args[1], 0, 4) {
			return 0, false
		}
		return u[args[1]], true
	case 3:
		return one(s.set(args[0], args[1], args[2])), true
	case 4:
		return int64(len(s.units)), true
	case 5:
		if !within(args[0], 0, int64(len(s.units)-1)) {
			return 0, true
		}
		return s.ids()[args[0]], true
	}
	return s.player, true
}

func (s *slow) set(id, field, x int64) bool {
	u, ok := s.units[id]
	switch {
	case !ok, field < 2, field > 4, field == 4 && x > 1000, field < 4 && !within(x, -1000, 1000):
		return false
	case field == 4 && x < 1:
		delete(s.units, id)
		return true
	}
	u[field] = x
	s.units[id] = u
	return true
}

// refuses: whether an order that may be may be this player's, now.
func (s *slow) refuses(o order.Order, player int64) bool {
	own := func(id int64) bool { u, ok := s.units[id]; return ok && u[1] == player }
	_, there := s.units[o.A]
	switch o.Kind {
	case order.Build:
		return false
	case order.Hit:
		return !own(o.Unit) || !there || own(o.A)
	}
	return !own(o.Unit)
}

func (s *slow) run(player int64, fn int, args ...int64) {
	s.player = player
	m := &vm.Machine{Heap: s.heap, Dice: s.dice, Image: s.image, Host: s}
	r := m.Run(s.left, fn, args...)
	s.left -= r.Steps
	s.ends[r.Trap]++
}

func (s *slow) play(l []Play) {
	s.left = 2000
	for _, p := range l {
		for _, o := range p.Batch {
			if s.refuses(o, int64(p.Player)) {
				s.refused++
				continue
			}
			s.run(int64(p.Player), 1, o.Unit, int64(o.Kind), o.A, o.B)
		}
	}
	s.turns++
	s.run(255, 0, int64(s.turns))
}

func (s *slow) text() string {
	var o wire.Out
	o.Count(s.turns).Num(s.dice.State()).Raw(s.heap.Text()).Num(uint64(s.next)).Count(len(s.units))
	ahead := int64(0)
	for _, id := range s.ids() {
		u := s.units[id]
		o.Num(uint64(id - ahead)).Int(u[:]...)
		ahead = id
	}
	return o.Count(s.refused).Count(s.ends[:]...).Text()
}

// P10.1, P10.4: games by chance against the slow ones; all that is told, turn by turn.
func TestAgainstSlow(t *testing.T) {
	r := rand.New(rand.NewSource(42))
	var all [6]int
	refused, full := 0, 0
	for range 400 {
		m, seed := anyImage(r), r.Uint64()
		w, s := start(t, m, seed), newSlow(m, seed)
		for range 12 {
			l := anyPlays(r)
			play(t, w, l...)
			s.play(l)
			if w.Text() != s.text() {
				t.Fatalf("%+v: %+v: %q, not %q", m, l, w.Text(), s.text())
			}
			if w.Turn() != s.turns || w.Refused() != s.refused || ends(w) != s.ends || w.Len() != len(s.units) || w.Next() != s.next || w.Hash() != sums.Of(s.text()) {
				t.Fatalf("%+v: %+v: other numbers", m, l)
			}
		}
		for trap, n := range s.ends {
			all[trap] += n
		}
		refused += s.refused
		full += len(s.units) / 64
	}
	for trap, n := range all {
		if n < 20 && trap != int(vm.Frames) {
			t.Errorf("chance has no ends: %v", all)
		}
	}
	if refused < 1000 || full < 5 {
		t.Errorf("chance has %d refused orders, and %d full worlds", refused, full)
	}
}

// P10.2: SAME: two worlds of the same image and seed; what else was asked, or told as an error, shows nowhere.
func TestSame(t *testing.T) {
	r := rand.New(rand.NewSource(43))
	unlike := 0
	for range 200 {
		m, seed := anyImage(r), r.Uint64()
		a, b, c := start(t, m, seed), start(t, m, seed), start(t, m, seed+1)
		for range 10 {
			l := anyPlays(r)
			play(t, a, l...)
			b.Play(Play{Player: 32})
			b.Play(append(slices.Clone(l), Play{Player: -1})...)
			b.Hash()
			b.All()
			play(t, b, l...)
			play(t, c, l...)
			if a.Text() != b.Text() || a.Hash() != b.Hash() {
				t.Fatalf("%+v: %q, %q", m, a.Text(), b.Text())
			}
			if a.Text() != c.Text() && a.Hash() != c.Hash() {
				unlike++
			}
		}
	}
	if unlike < 2000 { // the dice alone has another state
		t.Errorf("%d of 2000 turns of another seed are unlike", unlike)
	}
}

// P10.3: BACK: restored at any turn a world is the same, and goes on as it does, and neither shows in the other.
func TestBack(t *testing.T) {
	r := rand.New(rand.NewSource(44))
	for range 150 {
		m := anyImage(r)
		w := start(t, m, r.Uint64())
		var others []*World
		for range 10 {
			b, e := Restore(m, w.Text())
			if e != api.OK || b.Text() != w.Text() || b.Hash() != w.Hash() || b.Turn() != w.Turn() || b.Refused() != w.Refused() || ends(b) != ends(w) {
				t.Fatalf("%+v: Restore: %d", m, e)
			}
			if !slices.Equal(b.All(), w.All()) || b.Next() != w.Next() {
				t.Fatalf("%+v: other units", m)
			}
			others = append(others, b)
			l := anyPlays(r)
			was := b.Text()
			play(t, w, l...)
			if b.Text() != was {
				t.Fatalf("%+v: what the one plays shows in the other", m)
			}
			for _, b := range others {
				play(t, b, l...)
				if b.Text() != w.Text() {
					t.Fatalf("%+v: %q, not %q", m, b.Text(), w.Text())
				}
			}
		}
	}
}

// P10.1: the table's calls are the world's own; what code does shows in them.
func TestTableCalls(t *testing.T) {
	w := start(t, image(join(push(7), instrs{of(code.Host, 1)}, keep(0), ret()), ret()), 1)
	for range 8 {
		w.Spawn(1, 2, 3, 4)
	}
	play(t, w)
	if _, ok := w.Unit(7); ok || w.Len() != 7 || w.Next() != 9 || w.Nth(6) != 8 || cell(w, 0) != 1 {
		t.Errorf("%+v", w.All())
	}
	l := w.All()
	l[0].Fields[0] = 99
	if u, _ := w.Unit(1); u.Fields[0] != 1 {
		t.Errorf("%+v", u)
	}
	if !strings.Contains(w.Text(), w.Table.Text()) {
		t.Errorf("%q", w.Text())
	}
}

// The images of these tests may be run: a slip here would be told as another fault.
func TestImagesByChance(t *testing.T) {
	r := rand.New(rand.NewSource(45))
	for range 1000 {
		m := anyImage(r)
		if at, e := verify.Check(m); e != api.OK {
			t.Fatalf("%+v: %+v, %d", m, at, e)
		}
	}
}
