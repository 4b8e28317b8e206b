package unify

import (
	"fmt"
	"maps"
	"math"
	"math/rand"
	"slices"
	"strings"
	"testing"

	"emissary/api"
	"emissary/typ"
)

func ty(op string, kids ...api.Type) api.Type { return api.Type{Op: op, Kids: kids} }

func variable(n int) api.Type { return api.Type{Op: "var", N: n} }

func list(x api.Type) api.Type { return ty("list", x) }

func pair(a, b api.Type) api.Type { return ty("pair", a, b) }

func fun(a, b api.Type) api.Type { return ty("fun", a, b) }

var num, truth = ty("int"), ty("bool")

// ops is each Op but var, and how many kids it has: those without come first.
var ops = []struct {
	op   string
	kids int
}{{"int", 0}, {"bool", 0}, {"unit", 0}, {"string", 0}, {"cell", 0}, {"list", 1}, {"ref", 1}, {"pair", 2}, {"fun", 2}}

const leaves = 5

// two is what is to be one.
type two struct{ a, b api.Type }

// few is what a message tells of x.
func few(x any) string {
	s := fmt.Sprint(x)
	return s[:min(len(s), 500)]
}

// row is n nodes, each the only kid of the one above it; core is the last.
func row(n int, core api.Type) api.Type {
	for i := range n - 1 {
		core = ty([]string{"list", "ref"}[i%2], core)
	}
	return core
}

// tuple is all of l in one type.
func tuple(l ...api.Type) api.Type {
	x := ty("unit")
	for _, y := range l {
		x = pair(x, y)
	}
	return x
}

func variables(numbers ...int) (l []api.Type) {
	for _, n := range numbers {
		l = append(l, variable(n))
	}
	return l
}

// upTo is the vars of all numbers below n.
func upTo(n int) (l []api.Type) {
	for i := range n {
		l = append(l, variable(i))
	}
	return l
}

// put is t with each var that said has replaced, all at once.
func put(said map[int]api.Type, t api.Type) api.Type {
	if x, ok := said[t.N]; ok && t.Op == "var" && len(t.Kids) == 0 {
		return x
	}
	kids := t.Kids
	t.Kids = nil
	for _, k := range kids {
		t.Kids = append(t.Kids, put(said, k))
	}
	return t
}

// expected is what must be said that each two of left are one, worked out by
// rules over all that is still to be one: drop two that are the same, part two
// of one Op, replace a var everywhere. It is false if they can't be one.
func expected(left ...two) (map[int]api.Type, bool) {
	said := map[int]api.Type{}
	for len(left) > 0 {
		e := left[0]
		left = slices.Clone(left[1:])
		isVar := func(x api.Type) bool { return x.Op == "var" && len(x.Kids) == 0 }
		switch {
		case typ.Same(e.a, e.b):
		case isVar(e.a):
			if has(e.b, e.a) {
				return nil, false
			}
			one := map[int]api.Type{e.a.N: e.b}
			for i, l := range left {
				left[i] = two{put(one, l.a), put(one, l.b)}
			}
			for n, x := range said {
				said[n] = put(one, x)
			}
			said[e.a.N] = e.b
		case isVar(e.b):
			left = append(left, two{e.b, e.a})
		case e.a.Op != e.b.Op || e.a.N != e.b.N || len(e.a.Kids) != len(e.b.Kids):
			return nil, false
		}
		if !isVar(e.a) && !isVar(e.b) {
			for i := range e.a.Kids {
				left = append(left, two{e.a.Kids[i], e.b.Kids[i]})
			}
		}
	}
	return said, true
}

// alike tells whether a is b with its vars renamed by there, and b is a by
// back.
func alike(a, b api.Type, there, back map[int]int) bool {
	if a.Op != b.Op || len(a.Kids) != len(b.Kids) {
		return false
	}
	if a.Op == "var" && len(a.Kids) == 0 {
		x, came := there[a.N]
		y, cameBack := back[b.N]
		there[a.N], back[b.N] = b.N, a.N
		return came == cameBack && (!came || x == b.N && y == a.N)
	}
	for i := range a.Kids {
		if !alike(a.Kids[i], b.Kids[i], there, back) {
			return false
		}
	}
	return a.N == b.N
}

// has tells whether x is in t.
func has(t, x api.Type) bool {
	return typ.Same(t, x) || slices.ContainsFunc(t.Kids, func(k api.Type) bool { return has(k, x) })
}

func wantOf(t *testing.T, s *Sub, x, want api.Type) {
	t.Helper()
	if got := s.Of(x); !typ.Same(got, want) {
		t.Errorf("Of(%s): %s, want %s", few(x), few(got), few(want))
	}
}

func wantUnify(t *testing.T, s *Sub, a, b api.Type, want bool) {
	t.Helper()
	if got := s.Unify(a, b); got != want {
		t.Errorf("Unify(%s, %s): %v, want %v", few(a), few(b), got, want)
	}
	if want {
		wantOne(t, s, a, b)
	}
}

func wantOne(t *testing.T, s *Sub, a, b api.Type) {
	t.Helper()
	if x, y := s.Of(a), s.Of(b); !typ.Same(x, y) {
		t.Errorf("%s and %s are %s and %s", few(a), few(b), few(x), few(y))
	}
}

// wantEither is Unify of the two either way, each in a Sub of its own.
func wantEither(t *testing.T, a, b api.Type, want bool) {
	t.Helper()
	wantUnify(t, New(), a, b, want)
	wantUnify(t, New(), b, a, want)
}

// wantAll unifies pair by pair and holds it against expected: those that can't
// be one with what is said ahead of them are to be left aside. What is said
// must be just what is expected, but for which of several vars stands for all
// of them: it is of x, which has all vars, and of others that it has not.
func wantAll(t *testing.T, x api.Type, pairs ...two) *Sub {
	t.Helper()
	s := New()
	var held []two
	x = tuple(x, variable(math.MaxInt-7), variable(1<<50))
	for i, p := range pairs {
		said, ok := expected(append(slices.Clone(held), p)...)
		wantUnify(t, s, p.a, p.b, ok)
		if !ok {
			said, _ = expected(held...)
		} else {
			held = append(held, p)
		}
		got := s.Of(x)
		if want := put(said, x); !alike(got, want, map[int]int{}, map[int]int{}) {
			t.Fatalf("behind %d of %s: Of(%s) is %s, want %s", i, few(pairs), few(x), few(got), few(want))
		}
		wantOf(t, s, got, got)
		for _, h := range held {
			wantOne(t, s, h.a, h.b)
		}
	}
	return s
}

// P9.1
func TestFreshIsOneAfterTheOther(t *testing.T) {
	a, b := New(), New()
	for i := range 3000 {
		if x := a.Fresh(); !typ.Same(x, variable(i)) {
			t.Fatalf("a's %d is %v", i, x)
		}
		if i%3 == 0 {
			if x := b.Fresh(); !typ.Same(x, variable(i/3)) {
				t.Fatalf("b's %d is %v", i/3, x)
			}
		}
	}
}

// P9.1: whatever else is done, also to vars that come then.
func TestFreshBetweenOthers(t *testing.T) {
	s := New()
	others := []func(){
		func() {},
		func() { s.Unify(variable(5), num) },
		func() { s.Unify(variable(2), variable(3)) },
		func() { s.Unify(variable(9), list(variable(9))) },
		func() { s.Unify(num, truth) },
		func() { s.Unify(variable(1000), list(variable(math.MaxInt))) },
		func() { s.Of(pair(variable(12), variable(7))) },
		func() { s.Unify(variable(11), variable(10)) },
	}
	for i := range 60 {
		others[i%len(others)]()
		if x := s.Fresh(); !typ.Same(x, variable(i)) {
			t.Fatalf("%d is %v", i, x)
		}
	}
	wantOf(t, s, variable(5), num)
	wantOne(t, s, variable(2), variable(3))
	wantOf(t, s, variable(9), variable(9))
}

// P9.1: what is Fresh is a var like any other.
func TestFreshIsUnified(t *testing.T) {
	s := New()
	a, b, c := s.Fresh(), s.Fresh(), s.Fresh()
	wantUnify(t, s, a, list(b), true)
	wantUnify(t, s, b, c, true)
	wantUnify(t, s, list(num), a, true)
	wantOf(t, s, tuple(a, b, c, s.Fresh()), tuple(list(num), num, num, variable(3)))
}

// samples is a type of each Op with those kids, and a var.
func samples(kids ...api.Type) []api.Type {
	l := []api.Type{variable(4)}
	for _, o := range ops {
		l = append(l, ty(o.op, slices.Clone(kids[:o.kids])...))
	}
	return l
}

// P9.1: of what is not said nothing is replaced.
func TestOfWithNothingSaid(t *testing.T) {
	said := New()
	said.Unify(variable(0), num)
	said.Unify(variable(5), num)
	said.Unify(variable(-4), num)
	for _, s := range []*Sub{New(), {}, said, nil} {
		for _, x := range samples(variable(4), list(variable(6))) {
			for _, y := range samples(x, fun(x, variable(1<<40))) {
				wantOf(t, s, y, y)
			}
		}
		wantOf(t, s, row(1<<16, variable(7)), row(1<<16, variable(7)))
	}
}

// P9.1: each var, wherever it stands.
func TestOfReplacesEverywhere(t *testing.T) {
	s := New()
	wantUnify(t, s, variable(3), list(variable(1)), true)
	wantUnify(t, s, variable(1), fun(num, variable(2)), true)
	three, one := list(fun(num, variable(2))), fun(num, variable(2))
	for i, x := range samples(variable(3), variable(1)) {
		wantOf(t, s, x, samples(three, one)[i])
		wantOf(t, s, tuple(x, list(x), variable(2)), tuple(samples(three, one)[i], list(samples(three, one)[i]), variable(2)))
	}
	wantOf(t, s, tuple(variables(1, 2, 3, 4, 3, 1)...), tuple(one, variable(2), three, variable(4), three, one))
}

// chained is vars 0, 1 and on, each said to be what next makes of the one
// behind it, and the last one core: they are said in that order.
func chained(t *testing.T, order []int, next func(api.Type) api.Type, core api.Type, swap bool) *Sub {
	t.Helper()
	s := New()
	for _, i := range order {
		a, b := variable(i), next(variable(i+1))
		if i == len(order)-1 {
			b = core
		}
		if swap {
			a, b = b, a
		}
		if !s.Unify(a, b) {
			t.Fatalf("%d of %d", i, len(order))
		}
	}
	return s
}

// orders is some orders of 0 to n - 1.
func orders(n int) [][]int {
	up := slices.Collect(func(yield func(int) bool) {
		for i := range n {
			if !yield(i) {
				return
			}
		}
	})
	down := slices.Clone(up)
	slices.Reverse(down)
	return [][]int{up, down, rand.New(rand.NewSource(int64(n))).Perm(n)}
}

// P9.1: vars that are said to be vars that are said to be types.
func TestOfVarsThatAreVars(t *testing.T) {
	same := func(x api.Type) api.Type { return x }
	for _, n := range []int{1, 2, 3, 4, 5, 6, 7, 50, 20000} {
		for _, order := range orders(n) {
			for _, swap := range []bool{false, true} {
				for _, core := range []api.Type{num, fun(variable(n+5), truth)} {
					s := chained(t, order, same, core, swap)
					for i := range n {
						wantOf(t, s, variable(i), core)
					}
					wantOf(t, s, tuple(upTo(n)...), tuple(slices.Repeat([]api.Type{core}, n)...))
				}
			}
		}
	}
}

// P9.1: each var is said to be a list of the next, and so on, till there is
// none.
func TestOfVarsWithinTypes(t *testing.T) {
	for _, n := range []int{1, 2, 3, 4, 5, 40, 1000} {
		for _, order := range orders(n) {
			for _, swap := range []bool{false, true} {
				s := chained(t, order, list, truth, swap)
				want := truth
				for i := n - 1; i >= 0; i-- {
					if i < 50 || i%50 == 0 {
						wantOf(t, s, variable(i), want)
					}
					want = list(want)
				}
			}
		}
	}
}

// P9.1, W1: also many that are said from the last one on, each of a type that
// is the deepest till then.
func TestOfVarsFromTheLastOn(t *testing.T) {
	const n = 1 << 16
	for _, swap := range []bool{false, true} {
		s := chained(t, orders(n)[1], list, truth, swap)
		wantOf(t, s, variable(n-2), list(truth))
		if x := s.Of(variable(0)); !typ.Same(x.Kids[0], s.Of(variable(1))) || s.Unify(truth, variable(0)) {
			t.Error("the first of them")
		}
	}
}

// P9.1, W1: nested deeper than anything that was handed in.
func TestOfVeryDeep(t *testing.T) {
	const n = 300000
	s := New()
	for i := range n {
		if !s.Unify(variable(i), list(variable(i+1))) || !s.Unify(list(variable(-i-1)), variable(-i)) && i > 0 {
			t.Fatal(i)
		}
	}
	if s.Unify(variable(n), fun(num, variable(0))) {
		t.Error("a var is a type that has it within, far down")
	}
	x := s.Of(variable(0))
	for i := range n {
		if x.Op != "list" || len(x.Kids) != 1 {
			t.Fatalf("%d deep: %s", i, x.Op)
		}
		x = x.Kids[0]
	}
	if !typ.Same(x, variable(n)) {
		t.Errorf("at the end: %v", x)
	}
}

// P9.1: each Op with itself and each other one, with kids that are one and
// with kids that are not.
func TestEachOpWithEachOp(t *testing.T) {
	for i, x := range samples(num, truth)[1:] {
		for j, y := range samples(num, truth)[1:] {
			wantEither(t, x, y, i == j)
			wantEither(t, list(x), list(y), i == j)
			wantEither(t, pair(x, num), pair(y, num), i == j)
			wantEither(t, pair(num, x), pair(num, y), i == j)
			wantEither(t, fun(x, x), fun(y, y), i == j)
			wantEither(t, tuple(num, x, variable(3)), tuple(num, y, variable(3)), i == j)
		}
		for _, y := range samples(ty("cell"), truth)[1+leaves:] {
			wantEither(t, x, y, false)
		}
		for _, y := range samples(num, ty("cell"))[1+leaves+2:] {
			wantEither(t, x, y, false)
		}
	}
	for i, x := range samples(variable(0), variable(1))[1:] {
		for j, y := range samples(list(variable(2)), num)[1:] {
			wantEither(t, x, y, i == j)
		}
	}
}

// P9.1: a var with itself, with another var, with a type, on either side, at
// the top and within.
func TestVarWithEachType(t *testing.T) {
	for _, n := range []int{0, 1, 7, 1 << 31, 1 << 32, 1 << 53, math.MaxInt - 1, math.MaxInt} {
		v, w := variable(n), variable(n/2+3)
		for _, within := range []func(api.Type) api.Type{
			func(x api.Type) api.Type { return x },
			func(x api.Type) api.Type { return ty("ref", list(x)) },
			func(x api.Type) api.Type { return pair(num, fun(x, truth)) },
			func(x api.Type) api.Type { return tuple(x, x, variable(n/2+4)) },
		} {
			all := tuple(v, w, variable(n/2+4), variable(2))
			wantAll(t, all, two{within(v), within(v)})
			wantAll(t, all, two{within(v), within(w)})
			wantAll(t, all, two{within(v), within(w)}, two{within(w), within(v)}, two{within(v), within(v)})
			for _, x := range samples(num, variable(2))[1:] {
				for _, y := range samples(x, x)[1:] {
					wantAll(t, all, two{within(v), within(y)}, two{within(w), within(v)})
					wantAll(t, all, two{within(y), within(v)}, two{within(w), within(v)})
				}
			}
		}
	}
	s := New()
	wantUnify(t, s, variable(3), variable(3), true)
	wantOf(t, s, variable(3), variable(3))
}

// P9.1: vars are told apart by the whole of their numbers.
func TestGreatAndSmallNumbers(t *testing.T) {
	numbers := []int{0, 1, 2, 255, 256, 1 << 16, 1<<31 - 1, 1 << 31, 1 << 32, 1<<32 + 1, 1 << 53, 1<<53 + 1, math.MaxInt - 1, math.MaxInt}
	s := New()
	for i, n := range numbers {
		wantUnify(t, s, variable(n), row(i+1, num), true)
	}
	for i, n := range numbers {
		wantOf(t, s, variable(n), row(i+1, num))
		for j, m := range numbers {
			wantUnify(t, s, variable(n), variable(m), i == j)
		}
	}
}

// placed is types that have x within, at each place of each Op, and deeper.
func placed(x api.Type) (l []api.Type) {
	other := variable(8)
	for _, o := range ops[leaves:] {
		for i := range o.kids {
			kids := []api.Type{num, other}[:o.kids]
			kids[i] = x
			y := ty(o.op, kids...)
			l = append(l, y, list(y), pair(num, y), pair(y, other), fun(fun(other, ty("ref", y)), x))
		}
	}
	return append(l, row(40, x), tuple(num, other, x, num), pair(x, x))
}

// P9.1: a var is never a type that has it within.
func TestVarWithin(t *testing.T) {
	v, w := variable(2), variable(5)
	for _, x := range append(placed(v), row(1<<16-1, v)) {
		wantEither(t, v, x, false)
		wantEither(t, list(v), list(x), false)
		wantEither(t, pair(w, v), pair(v, x), false)
		wantEither(t, pair(w, w), pair(v, x), false)
		wantEither(t, pair(w, v), pair(x, w), false)
		wantEither(t, w, x, true)
	}
	// By what was said before.
	for _, x := range placed(v) {
		for _, first := range [][]two{
			{{v, w}}, {{w, v}},
			{{w, x}}, {{x, w}},
			{{v, w}, {variable(6), v}},
			{{variable(6), list(w)}, {w, variable(7)}, {x, variable(7)}},
		} {
			for _, last := range []two{{v, x}, {x, v}, {w, x}, {pair(v, w), pair(x, x)}} {
				_, ok := expected(append(slices.Clone(first), last)...)
				s := New()
				for _, p := range first {
					wantUnify(t, s, p.a, p.b, true)
				}
				was := s.Of(tuple(upTo(9)...))
				wantUnify(t, s, last.a, last.b, ok)
				if !ok {
					wantOf(t, s, tuple(upTo(9)...), was)
				}
			}
		}
	}
}

// P9.1: vars that go round by way of each other, the last of them last.
func TestVarsThatGoRound(t *testing.T) {
	for _, next := range []func(api.Type) api.Type{
		list,
		func(x api.Type) api.Type { return fun(x, x) },
		func(x api.Type) api.Type { return pair(ty("ref", variable(9999)), x) },
	} {
		for n := 1; n <= 12; n++ {
			for _, order := range orders(n) {
				for _, swap := range []bool{false, true} {
					s := chained(t, order, next, variable(n), swap)
					was := s.Of(tuple(upTo(n)...))
					for i := range n {
						wantUnify(t, s, variable(n), next(variable(i)), false)
						wantUnify(t, s, next(variable(i)), variable(n), false)
						wantUnify(t, s, list(variable(i)), list(next(variable(i))), false)
					}
					wantOf(t, s, tuple(upTo(n)...), was)
				}
			}
		}
	}
}

// P9.1: also where each var came far ahead of what is said of it.
func TestVarsThatCameBefore(t *testing.T) {
	for _, n := range []int{2, 3, 4, 10, 200} {
		for _, order := range orders(n) {
			s := New()
			all := tuple(upTo(n + 1)...)
			wantUnify(t, s, all, all, true)
			for _, i := range order {
				wantUnify(t, s, variable(i), list(variable(i+1)), true)
			}
			wantUnify(t, s, variable(n), list(variable(0)), false)
			wantUnify(t, s, list(variable(n/2)), variable(n), false)
			wantUnify(t, s, variable(n), variable(0), false)
			wantOf(t, s, variable(0), put(map[int]api.Type{0: variable(n)}, slices.Collect(lists(n, variable(0)))[n]))
		}
	}
}

// lists is core, a list of it, and so on, n + 1 in all.
func lists(n int, core api.Type) func(func(api.Type) bool) {
	return func(yield func(api.Type) bool) {
		for range n + 1 {
			if !yield(core) {
				return
			}
			core = list(core)
		}
	}
}

// P9.1, P9.2: pairs one after the other, where what was said before matters.
func TestPairsOneAfterTheOther(t *testing.T) {
	v := variable
	for _, pairs := range [][]two{
		{{list(v(0)), list(num)}},
		{{v(0), num}, {v(0), truth}, {v(0), num}, {truth, v(0)}},
		{{v(0), v(1)}, {v(0), num}, {v(1), truth}},
		{{v(0), v(1)}, {v(1), truth}, {v(0), num}},
		{{v(0), v(1)}, {v(2), v(3)}, {v(1), v(3)}, {v(2), num}},
		{{v(0), v(1)}, {v(2), v(3)}, {v(0), num}, {v(3), truth}, {v(1), v(2)}, {v(4), v(2)}},
		{{v(0), list(v(1))}, {v(0), list(v(2))}, {v(2), num}},
		{{v(0), list(v(1))}, {v(2), list(v(3))}, {v(0), v(2)}, {v(3), v(4)}, {num, v(4)}},
		{{v(0), list(v(1))}, {v(1), v(0)}, {v(1), list(v(0))}, {v(1), v(2)}, {v(2), v(0)}},
		{{v(0), fun(v(1), v(2))}, {v(1), fun(v(2), v(3))}, {v(0), fun(fun(v(3), v(4)), v(5))}, {v(5), num}},
		{{pair(v(0), v(1)), pair(v(1), v(0))}, {v(1), list(v(0))}, {v(0), num}},
		{{fun(v(0), v(1)), fun(list(v(1)), num)}, {v(0), v(2)}, {v(2), list(v(3))}},
		{{pair(v(0), num), pair(truth, truth)}, {v(0), num}},
		{{pair(num, v(0)), pair(truth, truth)}, {v(0), num}},
		{{tuple(v(0), v(1), v(2)), tuple(v(1), v(2), list(v(0)))}, {v(0), num}, {v(1), truth}, {v(2), ty("unit")}},
		{{tuple(v(0), v(1), v(2), num), tuple(v(1), v(2), v(0), truth)}, {tuple(v(0), v(1), v(2)), tuple(num, truth, ty("cell"))}},
		{{v(0), v(0)}, {v(0), list(v(0))}, {v(0), num}},
		{{v(5), pair(v(4), v(4))}, {v(4), pair(v(3), v(3))}, {v(3), pair(v(2), v(2))}, {v(5), pair(v(2), v(1))}, {v(5), pair(v(1), v(0))}, {v(1), num}},
	} {
		wantAll(t, tuple(upTo(7)...), pairs...)
	}
}

// P9.1: what is said does not hang on which of the two is named first, nor
// does Unify forget what is said of the vars on either side.
func TestEitherSide(t *testing.T) {
	turned := func(p two) two { return two{p.b, p.a} }
	pairs := []two{{variable(0), list(variable(1))}, {variable(1), variable(2)}, {variable(3), variable(0)}, {variable(3), list(fun(variable(4), num))}}
	for which := range 1 << len(pairs) {
		l := slices.Clone(pairs)
		for i := range l {
			if which>>i&1 == 1 {
				l[i] = turned(l[i])
			}
		}
		s := wantAll(t, tuple(upTo(6)...), l...)
		wantOf(t, s, tuple(upTo(4)...), tuple(list(fun(variable(4), num)), fun(variable(4), num), fun(variable(4), num), list(fun(variable(4), num))))
	}
}

// P9.1, W3: what can't be one leaves what was said as it was, however far it
// went.
func TestFalseSaysNothing(t *testing.T) {
	fresh, was := upTo(12), tuple(upTo(12)...)
	l, r := tuple(fresh[:6]...), tuple(fresh[6:]...)
	types := tuple(num, list(variable(9)), truth, fun(variable(10), num), variable(8), variable(7))
	for _, x := range []two{
		{pair(pair(l, r), num), pair(pair(r, types), truth)},
		{pair(num, pair(l, r)), pair(truth, pair(r, types))},
		{pair(pair(l, l), variable(11)), pair(pair(r, types), list(variable(11)))},
		{pair(variable(11), pair(l, r)), pair(list(variable(11)), pair(r, types))},
		{pair(pair(l, l), variable(0)), pair(pair(r, types), fun(variable(6), variable(6)))},
	} {
		s := New()
		wantUnify(t, s, x.a, x.b, false)
		wantOf(t, s, was, was)
		wantUnify(t, s, x.b, x.a, false)
		wantOf(t, s, was, was)
		// What comes later is as if it had not been asked.
		wantUnify(t, s, l, types, true)
		wantOf(t, s, variable(0), num)
		now := s.Of(was)
		wantUnify(t, s, pair(x.a, x.a), pair(x.b, x.b), false)
		wantOf(t, s, was, now)
		wantUnify(t, s, variable(6), list(variable(11)), true)
		wantOf(t, s, variable(6), list(variable(11)))
	}
}

// sizes is how many lead to each term that s has, by a var's number and its
// place below that; of a term that leads on it is less than 0.
func sizes(s *Sub) map[int][]int {
	all := map[int][]int{}
	for n, x := range s.terms {
		left := []*term{x}
		for len(left) > 0 {
			x, left = left[0], left[1:]
			size := x.size
			if x.is != nil {
				size = -1
				left = append(left, x.is)
			}
			all[n] = append(all[n], size)
			left = append(left, x.kids...)
		}
	}
	return all
}

// W3: what can't be one leaves nothing behind, also of what no answer tells.
func TestFalseKeepsNothing(t *testing.T) {
	r := rand.New(rand.NewSource(59))
	failed := 0
	for range 200 {
		s := New()
		for _, p := range somePairs(r, 10) {
			some := func() api.Type { return variable(r.Intn(30)) }
			p = two{tuple(some(), some(), p.a, some()), tuple(some(), some(), p.b, some())}
			was := sizes(s)
			if s.Unify(p.a, p.b) {
				continue
			}
			failed++
			if now := sizes(s); !maps.EqualFunc(now, was, slices.Equal) {
				t.Fatalf("%s leaves %v, there were %v", few(p), now, was)
			}
		}
	}
	if failed < 500 {
		t.Errorf("%d can't be one", failed)
	}
}

// small is all types of at most that many nodes, of few leaves.
func small(most int) (all []api.Type) {
	sizes := [][]api.Type{{variable(0), variable(1), variable(2), num, truth}}
	for n := 2; n <= most; n++ {
		var l []api.Type
		for _, k := range sizes[n-2] {
			l = append(l, list(k), ty("ref", k))
		}
		for first := 1; first <= n-2; first++ {
			for _, a := range sizes[first-1] {
				for _, b := range sizes[n-2-first] {
					l = append(l, pair(a, b), fun(a, b))
				}
			}
		}
		sizes = append(sizes, l)
	}
	return slices.Concat(sizes...)
}

// P9.1, P9.2: of small types each with each.
func TestEverySmallPair(t *testing.T) {
	all, x := small(3), tuple(upTo(3)...)
	made := 0
	for _, a := range all {
		for _, b := range all {
			wantAll(t, x, two{a, b})
			if New().Unify(a, b) {
				made++
			}
		}
	}
	if made < 500 {
		t.Errorf("%d of %d are one", made, len(all)*len(all))
	}
}

// randomType is one of about that many nodes, of vars below most.
func randomType(r *rand.Rand, room, most int) api.Type {
	if room <= 1 || r.Intn(6) == 0 {
		if r.Intn(3) > 0 {
			return variable(r.Intn(most))
		}
		return ty(ops[r.Intn(leaves)].op)
	}
	if r.Intn(3) == 0 {
		return ty(ops[leaves+r.Intn(2)].op, randomType(r, room-1, most))
	}
	left := r.Intn(room)
	return ty(ops[leaves+2+r.Intn(2)].op, randomType(r, left, most), randomType(r, room-1-left, most))
}

// P9.1, P9.2
func TestRandomPairs(t *testing.T) {
	r := rand.New(rand.NewSource(9))
	for range 3000 {
		vars := 1 + r.Intn(8)
		var pairs []two
		for range 1 + r.Intn(8) {
			pairs = append(pairs, two{randomType(r, 1+r.Intn(10), vars), randomType(r, 1+r.Intn(10), vars)})
		}
		wantAll(t, tuple(upTo(vars)...), pairs...)
	}
}

// hidden is t with some of its parts hidden behind vars whose types they are.
func hidden(r *rand.Rand, t api.Type, types map[int]api.Type) api.Type {
	if r.Intn(4) == 0 {
		for _, n := range slices.Sorted(maps.Keys(types)) {
			if typ.Same(types[n], t) && r.Intn(3) > 0 {
				return variable(n)
			}
		}
		n := len(types)
		types[n] = t
		return variable(n)
	}
	kids := t.Kids
	t.Kids = nil
	for _, k := range kids {
		t.Kids = append(t.Kids, hidden(r, k, types))
	}
	return t
}

// P9.2: there are types by which all pairs are one, so each is true, and from
// what is said these types are had.
func TestTypesThatMakeAllOne(t *testing.T) {
	r := rand.New(rand.NewSource(99))
	for range 3000 {
		types := map[int]api.Type{}
		s := New()
		var pairs []two
		for range 1 + r.Intn(6) {
			x := put(map[int]api.Type{0: num, 1: truth}, randomType(r, 1+r.Intn(40), 2))
			pairs = append(pairs, two{hidden(r, x, types), hidden(r, x, types)})
		}
		for _, p := range pairs {
			wantUnify(t, s, p.a, p.b, true)
		}
		for _, p := range pairs {
			wantOne(t, s, p.a, p.b)
		}
		for n, want := range types {
			if got := put(types, s.Of(variable(n))); !typ.Same(got, want) {
				t.Fatalf("%s: var %d is %s, of which %s can't be had", few(pairs), n, few(s.Of(variable(n))), few(want))
			}
		}
	}
}

// doubling says of n vars from the first that each is a pair of the next one,
// twice.
func doubling(s *Sub, first, n int) bool {
	for i := range n {
		if !s.Unify(variable(first+i), pair(variable(first+i+1), variable(first+i+1))) {
			return false
		}
	}
	return true
}

// W1: types of 2^n nodes that were made of few are one, or not, all the same.
func TestTypesThatDouble(t *testing.T) {
	const n, second = 500, 10000
	s := New()
	if !doubling(s, 0, n) || !doubling(s, second, n) {
		t.Fatal("doubling")
	}
	if !s.Unify(variable(0), variable(second)) {
		t.Error("two of 2^n nodes are not one")
	}
	for i := range n + 1 {
		if i > n-10 {
			wantOne(t, s, variable(i), variable(second+i))
		}
	}
	if s.Unify(variable(n), list(variable(0))) || s.Unify(variable(second), variable(n)) {
		t.Error("a var is what has it within")
	}
	wantUnify(t, s, variable(n), num, true)
	wantOf(t, s, variable(second+n-1), pair(num, num))
	if !doubling(s, 2*second, n) || !s.Unify(variable(2*second+n), truth) || s.Unify(variable(0), variable(2*second)) {
		t.Error("two that differ in their leaves are one")
	}
	wantOf(t, s, variable(2*second+n-2), pair(pair(truth, truth), pair(truth, truth)))
}

// W1: all of it at once.
func TestTypesThatDoubleInOnePair(t *testing.T) {
	const n = 200
	var a, b []api.Type
	for i := range n {
		a = append(a, variable(i), variable(1000+i))
		b = append(b, pair(variable(i+1), variable(i+1)), fun(variable(1000+i+1), variable(1000+i+1)))
	}
	for _, last := range []struct {
		two
		want bool
	}{
		{two{num, num}, true}, {two{variable(n), num}, true}, {two{variable(n), list(variable(0))}, false}, {two{variable(0), variable(1000)}, false},
		{two{variable(n), variable(0)}, false}, {two{variable(n), variable(1000)}, true},
	} {
		s := New()
		if s.Unify(pair(tuple(a...), last.a), pair(tuple(b...), last.b)) != last.want {
			t.Errorf("with %v: not %v", last.two, last.want)
		}
	}
}

// W1: types as deep as they may be.
func TestDeepTypes(t *testing.T) {
	const deep = 1 << 16
	for _, x := range []struct {
		a, b api.Type
		want bool
	}{
		{variable(0), variable(1), true}, {variable(0), num, true}, {num, num, true}, {num, truth, false}, {variable(0), list(variable(0)), false}, {variable(0), variable(0), true},
	} {
		wantEither(t, row(deep-1, x.a), row(deep-1, x.b), x.want)
		a, b := x.a, x.b
		for i := range deep - 3 {
			a, b = pair(variable(i+2), a), pair(num, b)
		}
		wantEither(t, a, b, x.want)
		wantEither(t, pair(variable(-1), variable(-1)), pair(a, b), x.want)
	}
}

// W1: one var many times.
func TestOneVarManyTimes(t *testing.T) {
	const n = 50000
	s := New()
	a, b := ty("unit"), ty("unit")
	for i := range n {
		a, b = pair(variable(n), a), pair(variable(i), b)
	}
	wantUnify(t, s, a, b, true)
	wantUnify(t, s, variable(n/2), list(variable(n+1)), true)
	for i := range n {
		wantUnify(t, s, variable(i), list(variable(n+1)), true)
	}
	wantUnify(t, s, variable(n+1), num, true)
	for i := range n + 1 {
		wantOf(t, s, variable(i), list(num))
	}
}

// P9.1: a type of more nodes than may be is handled by the same words.
func TestMoreThanMostNodes(t *testing.T) {
	for n := api.MaxNodes - 1; n <= api.MaxNodes+2; n++ {
		wantEither(t, row(n, num), row(n, num), true)
		wantEither(t, row(n, num), row(n, truth), false)
		s := New()
		wantUnify(t, s, variable(3), row(n, variable(4)), true)
		wantUnify(t, s, variable(4), row(7, num), true)
		wantOf(t, s, variable(3), row(n+6, num))
	}
}

// P9.2, W8
func TestNilSub(t *testing.T) {
	var s *Sub
	for _, x := range samples(variable(3), list(num)) {
		wantUnify(t, s, x, x, false)
		wantUnify(t, s, variable(0), x, false)
		wantOf(t, s, x, x)
	}
	for range 3 {
		if x := s.Fresh(); x.Op != "" || x.N != 0 || len(x.Kids) != 0 {
			t.Errorf("Fresh of a nil Sub: %v", x)
		}
	}
	if s.Unify(api.Type{}, api.Type{}) {
		t.Error("Unify of a nil Sub")
	}
}

// W1: a Sub that New did not make, and one that is a copy.
func TestOtherSubs(t *testing.T) {
	var s Sub
	wantOf(t, &s, variable(0), variable(0))
	wantUnify(t, &s, variable(0), list(variable(1)), true)
	wantOf(t, &s, s.Fresh(), list(variable(1)))
	c := s
	wantUnify(t, &c, variable(1), num, true)
	wantOf(t, &c, variable(0), list(num))
	if x := c.Fresh(); !typ.Same(x, variable(1)) {
		t.Errorf("Fresh of a copy: %v", x)
	}
}

// W2: two Subs know nothing of each other, and come to the same.
func TestTwoSubs(t *testing.T) {
	a, b, c := New(), New(), New()
	wantUnify(t, a, variable(0), num, true)
	wantUnify(t, b, variable(0), truth, true)
	wantOf(t, a, variable(0), num)
	wantOf(t, b, variable(0), truth)
	wantOf(t, c, variable(0), variable(0))
	r := rand.New(rand.NewSource(999))
	for range 300 {
		x, y := randomType(r, 12, 9), randomType(r, 12, 9)
		if a.Unify(x, y) {
			wantUnify(t, c, variable(0), num, true)
			wantUnify(t, c, x, y, true)
		}
		for _, v := range upTo(9)[1:] {
			wantOf(t, c, v, a.Of(v))
		}
	}
}

// nones is what is no type.
func nones() []api.Type {
	return []api.Type{{}, ty("char"), ty("", num), ty("char", variable(0)), ty("int", num), ty("int", variable(0), variable(1)), ty("list"), ty("list", num, num), ty("pair"),
		ty("pair", num), ty("pair", num, num, num), ty("fun", variable(0)), ty("ref"), {Op: "int", N: 1}, {Op: "int", N: math.MinInt}, {Op: "list", N: 3, Kids: []api.Type{variable(0)}},
		variable(-1), variable(math.MinInt), ty("var", num), {Op: "var", N: 1, Kids: []api.Type{variable(0)}}, {Op: "var", N: 1, Kids: []api.Type{variable(1)}}, ty("VAR"), ty("var "), ty("\xff\x00")}
}

// W1: whatever is handed in, no call panics, and it goes by the same words:
// what has the same Op and number, and as many kids, is one if they are.
func TestWhatIsNoType(t *testing.T) {
	x := tuple(variables(0, 1, 2, 3, -1, math.MinInt)...)
	types := append(samples(variable(0), num), variable(1))
	for _, a := range nones() {
		for _, b := range append(nones(), types...) {
			wantAll(t, x, two{a, b}, two{b, a})
			wantAll(t, x, two{list(a), list(b)}, two{variable(0), num}, two{b, a})
			wantAll(t, x, two{variable(1), a}, two{variable(1), b}, two{variable(2), pair(a, b)})
		}
	}
}

// copied is t in memory of its own.
func copied(t api.Type) api.Type { return put(nil, t) }

// spare is t with room behind the end of each of its lists, in which other
// types stand.
func spare(t api.Type) api.Type {
	kids := make([]api.Type, 0, len(t.Kids)+2)
	for _, k := range t.Kids {
		kids = append(kids, spare(k))
	}
	t.Kids = append(kids, variable(81), variable(82))[:len(kids)]
	return t
}

// unchanged tells whether t is what spare made of was, spare room too.
func unchanged(t, was api.Type) bool {
	if t.Op != was.Op || t.N != was.N || len(t.Kids) != len(was.Kids) || cap(t.Kids) != len(t.Kids)+2 {
		return false
	}
	behind := t.Kids[len(t.Kids):cap(t.Kids)]
	return typ.Same(behind[0], variable(81)) && typ.Same(behind[1], variable(82)) && slices.EqualFunc(t.Kids, was.Kids, unchanged)
}

// spoil changes all that t has, the spare room of its lists too.
func spoil(t api.Type) {
	l := t.Kids[:cap(t.Kids)]
	for i := range l {
		spoil(l[i])
		l[i] = api.Type{Op: "spoiled", N: -5}
	}
}

// places is where each element of t's lists lies, spare room too.
func places(t api.Type, add func(*api.Type)) {
	l := t.Kids[:cap(t.Kids)]
	for i := range l {
		add(&l[i])
		places(l[i], add)
	}
}

// somePairs is pairs that are one and that are not, of few vars.
func somePairs(r *rand.Rand, n int) (l []two) {
	for range n {
		l = append(l, two{randomType(r, 15, 12), randomType(r, 15, 12)})
	}
	return append(l, two{list(variable(0)), list(variable(0))}, two{variable(13), large()}, two{large(), large()}, two{large(), list(large())})
}

// large is all Ops in one type.
func large() api.Type {
	return tuple(slices.Concat(samples(variable(14), num), samples(list(variable(15)), pair(variable(14), variable(16))))...)
}

// W6: what is handed in is as it was, its kids and their spare room too.
func TestNothingIsChanged(t *testing.T) {
	r := rand.New(rand.NewSource(19))
	for range 100 {
		for _, s := range []*Sub{New(), nil} {
			for _, p := range somePairs(r, 5) {
				a, b := spare(p.a), spare(p.b)
				s.Unify(a, b)
				s.Of(a)
				spoil(s.Of(b))
				s.Unify(b, a)
				s.Unify(a, a)
				if !unchanged(a, p.a) || !unchanged(b, p.b) {
					t.Fatalf("%s or %s is changed", few(p.a), few(p.b))
				}
			}
		}
	}
}

// W6: what is handed in is not kept, nor is what is answered.
func TestNothingIsKept(t *testing.T) {
	r := rand.New(rand.NewSource(29))
	x := tuple(upTo(17)...)
	for range 100 {
		s, other := New(), New()
		for _, p := range somePairs(r, 8) {
			a, b := spare(p.a), spare(p.b)
			wantUnify(t, s, a, b, other.Unify(p.a, p.b))
			spoil(a)
			spoil(b)
			spoil(s.Of(p.a))
			spoil(s.Of(x))
			wantOf(t, s, x, other.Of(x))
		}
	}
}

// W6: no two lists of what Of answers share memory, also where those handed in
// do, and none with another answer.
func TestOfIsNewMemory(t *testing.T) {
	r := rand.New(rand.NewSource(39))
	for range 100 {
		for _, s := range []*Sub{New(), nil} {
			seen := map[*api.Type]bool{}
			shared := pair(variable(1), list(variable(2)))
			for _, p := range append(somePairs(r, 5), two{pair(shared, shared), fun(variable(1), shared)}) {
				both := pair(p.a, p.a)
				places(both, func(p *api.Type) { seen[p] = true })
				s.Unify(p.a, p.b)
				for range 2 {
					places(s.Of(both), func(x *api.Type) {
						if seen[x] {
							t.Fatalf("Of(%s) shares memory", few(both))
						}
						seen[x] = true
					})
				}
			}
		}
	}
}

// W7: an answer stays what it is, whatever is said later.
func TestAnswersStay(t *testing.T) {
	r := rand.New(rand.NewSource(49))
	for range 50 {
		s := New()
		x := tuple(upTo(17)...)
		var answers, were []api.Type
		for _, p := range somePairs(r, 10) {
			s.Unify(p.a, p.b)
			answers = append(answers, s.Of(x), s.Of(p.a), s.Fresh())
			for _, a := range answers[len(were):] {
				were = append(were, copied(a))
			}
		}
		for i, a := range answers {
			if !typ.Same(a, were[i]) {
				t.Fatalf("%s became %s", few(were[i]), few(a))
			}
		}
	}
}

// read is the type that bytes tell, and the bytes behind it: of a byte the
// Op, and of a var its number.
func read(b []byte, deep int) (api.Type, []byte) {
	if len(b) == 0 || deep == 0 {
		return num, nil
	}
	c := int(b[0])
	b = b[1:]
	if c >= 200 {
		l := nones()
		return l[c%len(l)], b
	}
	i := c % (len(ops) + 5)
	if i >= len(ops) {
		return variable(c % 8), b
	}
	x := ty(ops[i].op)
	for range ops[i].kids {
		var k api.Type
		k, b = read(b, deep-1)
		x.Kids = append(x.Kids, k)
	}
	return x, b
}

// Whatever is to be one: what the document asks of it.
func FuzzUnify(f *testing.F) {
	for _, s := range []string{"", "\x09\x05\x09", "\x07\x09\x0a\x07\x0a\x05\x09", "\x09\x0a\x0a\x0b\x0b\x05\x09\x09\x00", "\x09\xc9\xd1\xff", strings.Repeat("\x09\x07\x0a\x0b", 6)} {
		f.Add([]byte(s))
	}
	f.Fuzz(func(t *testing.T, b []byte) {
		var pairs []two
		for len(b) > 0 && len(pairs) < 20 {
			var p two
			p.a, b = read(b[:min(len(b), 200)], 12)
			p.b, b = read(b, 12)
			pairs = append(pairs, p)
		}
		wantAll(t, tuple(variables(0, 1, 2, 3, 4, 5, 6, 7, -1, math.MinInt)...), pairs...)
	})
}
