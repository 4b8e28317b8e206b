package scheme

import (
	"fmt"
	"math"
	"math/rand"
	"regexp"
	"slices"
	"strconv"
	"strings"
	"testing"

	"emissary/api"
	"emissary/typ"
	"emissary/unify"
)

func ty(op string, kids ...api.Type) api.Type { return api.Type{Op: op, Kids: kids} }

func variable(n int) api.Type { return api.Type{Op: "var", N: n} }

func list(x api.Type) api.Type { return ty("list", x) }

func pair(a, b api.Type) api.Type { return ty("pair", a, b) }

func fun(a, b api.Type) api.Type { return ty("fun", a, b) }

var num, truth = ty("int"), ty("bool")

// ops is each Op but var, and how many kids it has: those without come first.
var ops = []struct {
	op   string
	kids int
}{{"int", 0}, {"bool", 0}, {"unit", 0}, {"string", 0}, {"cell", 0}, {"list", 1}, {"ref", 1}, {"pair", 2}, {"fun", 2}}

const leaves = 5

// forall is a scheme; bound is a name with one.
func forall(t api.Type, vars ...int) api.Scheme { return api.Scheme{Vars: vars, Type: t} }

func bound(name string, t api.Type, vars ...int) api.Bound {
	return api.Bound{Name: name, Scheme: forall(t, vars...)}
}

// few is what a message tells of x.
func few(x any) string {
	s := fmt.Sprint(x)
	return s[:min(len(s), 500)]
}

// tuple is a type that has vars of those numbers, from the left; leftward goes
// down by its first kids.
func tuple(numbers ...int) api.Type {
	x := ty("unit")
	for _, n := range slices.Backward(numbers) {
		x = pair(variable(n), x)
	}
	return x
}

func leftward(numbers ...int) api.Type {
	x := ty("unit")
	for _, n := range numbers {
		x = fun(x, variable(n))
	}
	return x
}

// row is n nodes, each the only kid of the one above it; core is the last.
func row(n int, core api.Type) api.Type {
	for i := range n - 1 {
		core = ty([]string{"list", "ref"}[i%2], core)
	}
	return core
}

// within is x alone, at each place of each Op, and deeper.
func within(x api.Type) []api.Type {
	l := []api.Type{x, row(40, x)}
	for _, o := range ops[leaves:] {
		for i := range o.kids {
			kids := []api.Type{num, truth}[:o.kids]
			kids[i] = x
			y := ty(o.op, kids...)
			l = append(l, y, list(y), pair(num, y), pair(y, truth), fun(fun(truth, ty("ref", y)), ty("cell")))
		}
	}
	return l
}

// upTo is first, first + 1 and so on, n in all.
func upTo(first, n int) (l []int) {
	for i := range n {
		l = append(l, first+i)
	}
	return l
}

var varLike = regexp.MustCompile(`'-?[0-9]+`)

// numbers is the vars that t's text tells.
func numbers(t api.Type) (l []int) {
	seen := map[string]bool{}
	for _, s := range varLike.FindAllString(typ.Show(t), -1) {
		if n, _ := strconv.Atoi(s[1:]); !seen[s] {
			seen[s] = true
			l = append(l, n)
		}
	}
	return l
}

// expectedFree is each number that is a var of a scheme which does not have it
// among its own.
func expectedFree(env []api.Bound) (l []int) {
	free := map[int]bool{}
	for _, b := range env {
		own := map[int]bool{}
		for _, n := range b.Scheme.Vars {
			own[n] = true
		}
		for _, n := range numbers(b.Scheme.Type) {
			free[n] = free[n] || !own[n]
		}
	}
	for n, is := range free {
		if is {
			l = append(l, n)
		}
	}
	slices.Sort(l)
	return l
}

// expectedVars is t's vars that are not free, as they come.
func expectedVars(env []api.Bound, t api.Type) (l []int) {
	free := expectedFree(env)
	for _, n := range numbers(t) {
		if !slices.Contains(free, n) {
			l = append(l, n)
		}
	}
	return l
}

// expectedTake is the text of x's type, its own vars numbered first, first + 1
// and so on.
func expectedTake(first int, x api.Scheme) string {
	taken := map[string]string{}
	for i, n := range slices.Backward(x.Vars) {
		taken["'"+strconv.Itoa(n)] = "'" + strconv.Itoa(first+i)
	}
	return varLike.ReplaceAllStringFunc(typ.Show(x.Type), func(s string) string {
		if to, ok := taken[s]; ok {
			return to
		}
		return s
	})
}

// expectedLook is where the last one of that name is, or less than 0.
func expectedLook(env []api.Bound, name string) int {
	last := -1
	for i := range env {
		if env[i].Name == name {
			last = i
		}
	}
	return last
}

func wantFree(t *testing.T, env []api.Bound, want ...int) {
	t.Helper()
	if got := Free(env); !slices.Equal(got, want) {
		t.Errorf("Free(%s): %s, want %s", few(env), few(got), few(want))
	}
}

func wantGeneral(t *testing.T, env []api.Bound, x api.Type, want ...int) {
	t.Helper()
	got := General(env, x)
	if !slices.Equal(got.Vars, want) || !typ.Same(got.Type, x) {
		t.Errorf("General(%s, %s): %s, want Vars %s", few(env), few(x), few(got), few(want))
	}
}

// wantTake is a Take with a Sub whose next Fresh one is first. It takes one for
// each of x's Vars, and no more.
func wantTake(t *testing.T, first int, x api.Scheme, want api.Type) {
	t.Helper()
	s := freshFrom(first)
	if got := Take(s, x); !typ.Same(got, want) {
		t.Errorf("Take from %d of %s: %s, want %s", first, few(x), few(got), few(want))
	}
	wantNext(t, s, first+len(x.Vars))
}

// wantNext is that so many Fresh ones of s were had.
func wantNext(t *testing.T, s *unify.Sub, next int) {
	t.Helper()
	if got := s.Fresh(); !typ.Same(got, variable(next)) {
		t.Errorf("Fresh is %v, want %d", got, next)
	}
}

// freshFrom is a Sub whose next Fresh one is first.
func freshFrom(first int) *unify.Sub {
	s := unify.New()
	for range first {
		s.Fresh()
	}
	return s
}

func wantLook(t *testing.T, env []api.Bound, name string) {
	t.Helper()
	got, ok := Look(env, name)
	i := expectedLook(env, name)
	var want api.Scheme
	if i >= 0 {
		want = env[i].Scheme
	}
	if ok != (i >= 0) || !sameScheme(got, want) {
		t.Errorf("Look(%s, %q): %s, %v, want %s", few(env), name, few(got), ok, few(want))
	}
}

func sameScheme(a, b api.Scheme) bool {
	return slices.Equal(a.Vars, b.Vars) && typ.Same(a.Type, b.Type)
}

// wantExpected holds each call against what the document asks of types, of any
// size, and of any list of Vars.
func wantExpected(t *testing.T, env []api.Bound, x api.Type) {
	t.Helper()
	wantFree(t, env, expectedFree(env)...)
	wantGeneral(t, env, x, expectedVars(env, x)...)
	s, next := unify.New(), 0
	for _, b := range append(slices.Clone(env), bound("", x, expectedVars(env, x)...), bound("", x)) {
		wantGeneral(t, env, b.Scheme.Type, expectedVars(env, b.Scheme.Type)...)
		wantLook(t, env, b.Name)
		wantLook(t, env, b.Name+"x")
		want := expectedTake(next, b.Scheme)
		next += len(b.Scheme.Vars)
		if got := typ.Show(Take(s, b.Scheme)); got != want {
			t.Errorf("Take of %s: %s, want %s", few(b), few(got), few(want))
		}
	}
	wantNext(t, s, next)
	if t.Failed() {
		t.FailNow()
	}
}

// P10.1: the document's example, and each env without a scheme.
func TestEmptyEnv(t *testing.T) {
	for _, env := range [][]api.Bound{nil, {}, make([]api.Bound, 0, 5)} {
		wantFree(t, env)
		wantGeneral(t, env, fun(variable(4), variable(4)), 4)
		wantGeneral(t, env, num)
		wantLook(t, env, "x")
		wantLook(t, env, "")
	}
}

// P10.1
func TestFreeOfOneScheme(t *testing.T) {
	for _, x := range []struct {
		numbers, own, want []int
	}{
		{nil, nil, nil},
		{nil, []int{0}, nil},
		{[]int{0}, nil, []int{0}},
		{[]int{0}, []int{0}, nil},
		{[]int{0}, []int{1}, []int{0}},
		{[]int{3, 1, 2}, nil, []int{1, 2, 3}},
		{[]int{3, 1, 2}, []int{2}, []int{1, 3}},
		{[]int{3, 1, 2}, []int{1, 3}, []int{2}},
		{[]int{3, 1, 2}, []int{3, 1}, []int{2}},
		{[]int{3, 1, 2}, []int{2, 3, 1}, nil},
		{[]int{3, 1, 2}, []int{9, 2, 0}, []int{1, 3}},
		{[]int{7, 7, 7}, nil, []int{7}},
		{[]int{7, 7, 7}, []int{7}, nil},
		{[]int{7, 5, 7, 5, 6}, []int{5, 5, 5}, []int{6, 7}},
		{[]int{10, 9, 100, 2, 1}, nil, []int{1, 2, 9, 10, 100}},
		{[]int{math.MaxInt, 0, 1 << 32, 1, 1<<32 + 1}, []int{1}, []int{0, 1 << 32, 1<<32 + 1, math.MaxInt}},
		{[]int{math.MaxInt, 0}, []int{math.MaxInt}, []int{0}},
		{[]int{math.MaxInt - 1}, []int{math.MaxInt}, []int{math.MaxInt - 1}},
		{[]int{1 << 31, 1 << 32, 1 << 53, 1<<53 + 1}, []int{0, 1<<32 + 1<<31, 1 << 53}, []int{1 << 31, 1 << 32, 1<<53 + 1}},
	} {
		wantFree(t, []api.Bound{bound("x", tuple(x.numbers...), x.own...)}, x.want...)
		wantFree(t, []api.Bound{bound("", leftward(x.numbers...), x.own...)}, x.want...)
	}
}

// P10.1: wherever in the type a var stands.
func TestFreeAtEachPlace(t *testing.T) {
	for _, x := range within(variable(5)) {
		wantFree(t, []api.Bound{bound("x", x)}, 5)
		wantFree(t, []api.Bound{bound("x", x, 5)})
		wantFree(t, []api.Bound{bound("x", x, 4, 6)}, 5)
		wantFree(t, []api.Bound{bound("x", num), bound("y", x), bound("z", truth)}, 5)
	}
	for _, o := range ops[:leaves] {
		for _, x := range within(ty(o.op)) {
			wantFree(t, []api.Bound{bound("x", x), bound("x", x, 0)})
		}
	}
}

// P10.1: of many schemes, whose Vars are each scheme's own.
func TestFreeOfManySchemes(t *testing.T) {
	two, same := tuple(2, 4), fun(variable(7), variable(7))
	for _, x := range []struct {
		env  []api.Bound
		want []int
	}{
		{[]api.Bound{bound("x", num), bound("y", truth)}, nil},
		{[]api.Bound{bound("x", two), bound("y", two)}, []int{2, 4}},
		{[]api.Bound{bound("x", two, 2), bound("y", two, 4)}, []int{2, 4}},
		{[]api.Bound{bound("x", two, 2), bound("y", two, 2)}, []int{4}},
		{[]api.Bound{bound("x", two, 2, 4), bound("y", two, 4, 2)}, nil},
		{[]api.Bound{bound("x", same, 7), bound("y", same)}, []int{7}},
		{[]api.Bound{bound("x", same), bound("y", same, 7)}, []int{7}},
		{[]api.Bound{bound("x", same, 7), bound("y", same, 7)}, nil},
		{[]api.Bound{bound("x", num, 7), bound("y", same), bound("z", truth, 7)}, []int{7}},
		{[]api.Bound{bound("x", variable(9)), bound("x", variable(3)), bound("x", variable(9)), bound("x", variable(0))}, []int{0, 3, 9}},
		{[]api.Bound{bound("x", variable(3)), bound("x", num)}, []int{3}},
		{[]api.Bound{bound("x", variable(3), 3), bound("x", variable(3)), bound("y", variable(3), 3)}, []int{3}},
		{[]api.Bound{bound("x", tuple(5, 1), 1), bound("y", tuple(1, 3), 3), bound("z", tuple(3, 5), 5)}, []int{1, 3, 5}},
		{[]api.Bound{bound("x", tuple(math.MaxInt, 0), 0), bound("y", tuple(1, 0), 0)}, []int{1, math.MaxInt}},
	} {
		wantFree(t, x.env, x.want...)
		slices.Reverse(x.env)
		wantFree(t, x.env, x.want...)
		wantGeneral(t, x.env, tuple(x.want...))
		for i := range x.env {
			x.env[i].Name = ""
		}
		wantFree(t, x.env, x.want...)
	}
}

// P10.1: rising, each once, however they come.
func TestFreeInAnyOrder(t *testing.T) {
	r := rand.New(rand.NewSource(10))
	for n := range 60 {
		var env []api.Bound
		for _, v := range append(r.Perm(n), r.Perm(n)...) {
			env = append(env, bound("x", tuple(v, n+v), n+v), bound("y", leftward(v, v, 2*n), 2*n))
		}
		wantFree(t, env, upTo(0, n)...)
		wantFree(t, []api.Bound{bound("x", tuple(append(r.Perm(n), r.Perm(n)...)...))}, upTo(0, n)...)
		wantFree(t, []api.Bound{bound("x", leftward(r.Perm(n)...), r.Perm(n/2)...)}, upTo(n/2, n-n/2)...)
	}
}

// P10.1: types with no var, with vars that are free, with vars that are not,
// with both.
func TestGeneral(t *testing.T) {
	env := []api.Bound{bound("x", variable(2)), bound("y", tuple(7, 4, 11), 7, 11), bound("x", list(variable(2))), bound("z", variable(11))}
	for _, x := range []struct {
		t    api.Type
		want []int
	}{
		{num, nil},
		{list(fun(ty("cell"), ty("unit"))), nil},
		{variable(2), nil},
		{variable(4), nil},
		{variable(11), nil},
		{tuple(4, 2, 4, 11), nil},
		{variable(7), []int{7}},
		{variable(0), []int{0}},
		{tuple(9, 0, 8), []int{9, 0, 8}},
		{leftward(9, 0, 8), []int{9, 0, 8}},
		{tuple(9, 2, 0, 4, 8, 11, 7), []int{9, 0, 8, 7}},
		{leftward(2, 9, 4, 0, 11, 8), []int{9, 0, 8}},
		{tuple(5, 5, 5), []int{5}},
		{tuple(2, 5, 2, 5, 1, 5, 1), []int{5, 1}},
		{fun(variable(5), fun(variable(2), variable(5))), []int{5}},
		{fun(fun(variable(math.MaxInt), variable(1<<40)), list(variable(0))), []int{math.MaxInt, 1 << 40, 0}},
		{tuple(12, 10, 3, 5, 1, 6), []int{12, 10, 3, 5, 1, 6}},
	} {
		wantGeneral(t, env, x.t, x.want...)
		wantGeneral(t, nil, x.t, numbers(x.t)...)
		wantExpected(t, env, x.t)
	}
}

// P10.1: Vars in the order in which they come first.
func TestGeneralInAnyOrder(t *testing.T) {
	r := rand.New(rand.NewSource(20))
	for n := 1; n <= 50; n++ {
		first := r.Perm(n)
		env := []api.Bound{bound("x", tuple(r.Perm(n)[:n/3]...)), bound("y", leftward(r.Perm(n)...), upTo(0, n)...)}
		for _, again := range [][]int{nil, first, r.Perm(n), slices.Repeat(first[:1], 50), slices.Repeat(first[n-1:], 50)} {
			for _, grow := range []func(...int) api.Type{tuple, leftward} {
				x := grow(append(slices.Clone(first), again...)...)
				wantGeneral(t, nil, x, first...)
				wantGeneral(t, env, x, expectedVars(env, x)...)
				wantGeneral(t, env[1:], x, first...)
			}
		}
	}
}

// P10.1: wherever in the type a var stands.
func TestGeneralAtEachPlace(t *testing.T) {
	for _, x := range within(variable(5)) {
		wantGeneral(t, nil, x, 5)
		wantGeneral(t, []api.Bound{bound("x", variable(5))}, x)
		wantGeneral(t, []api.Bound{bound("x", variable(5), 5), bound("y", variable(6))}, x, 5)
		wantGeneral(t, []api.Bound{bound("y", variable(6))}, pair(variable(6), x), 5)
	}
}

// P10.1
func TestTake(t *testing.T) {
	v := variable
	f := fun(v(5), fun(v(2), v(5)))
	for _, x := range []struct {
		first int
		given api.Scheme
		want  api.Type
	}{
		// Without Vars.
		{0, forall(num), num},
		{0, forall(v(0)), v(0)},
		{3, forall(f), f},
		// With some, with all.
		{0, forall(f, 5), fun(v(0), fun(v(2), v(0)))},
		{0, forall(f, 2), fun(v(5), fun(v(0), v(5)))},
		{0, forall(f, 5, 2), fun(v(0), fun(v(1), v(0)))},
		{0, forall(f, 2, 5), fun(v(1), fun(v(0), v(1)))},
		{7, forall(f, 5, 2), fun(v(7), fun(v(8), v(7)))},
		{9, forall(f, 5), fun(v(9), fun(v(2), v(9)))},
		{0, forall(v(0), 0), v(0)},
		{1, forall(v(0), 0), v(1)},
		{0, forall(v(math.MaxInt), math.MaxInt), v(0)},
		{4, forall(tuple(math.MaxInt, 1<<32, 0, 1<<31), 0, 1<<32, math.MaxInt), tuple(6, 5, 4, 1<<31)},
		// With Vars that the type doesn't have.
		{5, forall(f, 2, 5, 9), fun(v(6), fun(v(5), v(6)))},
		{5, forall(f, 9, 5, 8, 2, 7), fun(v(6), fun(v(8), v(6)))},
		{5, forall(f, 9), f},
		{0, forall(num, 0), num},
		{2, forall(list(truth), 3, 1, 2), list(truth)},
		{2, forall(v(6), 3, 1, 2), v(6)},
		// All at once.
		{0, forall(tuple(1, 0), 1, 0), tuple(0, 1)},
		{0, forall(tuple(1, 0), 0, 1), tuple(1, 0)},
		{0, forall(tuple(0, 1, 2), 1, 2, 0), tuple(2, 0, 1)},
		{1, forall(tuple(0, 1, 2), 0, 1, 2), tuple(1, 2, 3)},
		{0, forall(tuple(1, 2, 3), 1, 2, 3), tuple(0, 1, 2)},
		{2, forall(tuple(0, 2, 0, 2), 0), tuple(2, 2, 2, 2)},
		{1, forall(leftward(3, 2, 1, 0), 3, 1), leftward(1, 2, 2, 0)},
	} {
		wantTake(t, x.first, x.given, x.want)
	}
}

// P10.1: whichever numbers the Fresh ones have, and in whichever order they
// are taken.
func TestTakeAllAtOnce(t *testing.T) {
	r := rand.New(rand.NewSource(30))
	for n := range 30 {
		for first := range 2*n + 2 {
			vars := r.Perm(n + n/2)[:n]
			numbers := append(r.Perm(2*n), r.Perm(2*n)...)
			var want []int
			for _, v := range numbers {
				if i := slices.Index(vars, v); i >= 0 {
					v = first + i
				}
				want = append(want, v)
			}
			wantTake(t, first, forall(tuple(numbers...), vars...), tuple(want...))
			wantTake(t, first, forall(leftward(numbers...), vars...), leftward(want...))
		}
	}
}

// P10.1: wherever in the type a var stands.
func TestTakeAtEachPlace(t *testing.T) {
	taken, same := within(variable(1)), within(variable(5))
	for i, x := range same {
		wantTake(t, 1, forall(x, 5), taken[i])
		wantTake(t, 0, forall(x, 9, 5), taken[i])
		wantTake(t, 1, forall(x), x)
		wantTake(t, 1, forall(x, 4, 6), x)
	}
	for _, o := range ops[:leaves] {
		for _, x := range within(ty(o.op)) {
			wantTake(t, 3, forall(x, 0), x)
		}
	}
}

// P10.1: again and again with one Sub, each time with new ones.
func TestTakeAgain(t *testing.T) {
	s, next := unify.New(), 0
	schemes := []api.Scheme{
		forall(tuple(5, 2, 5), 5, 2), forall(num), forall(tuple(0, 1, 2), 2), forall(list(variable(3)), 1, 3, 0), forall(variable(8)), forall(ty("cell"), 6, 6),
	}
	for i := range 300 {
		x := schemes[i%len(schemes)]
		want := expectedTake(next, x)
		if got := typ.Show(Take(s, x)); got != want {
			t.Fatalf("%d: %s, want %s", i, got, want)
		}
		next += len(x.Vars)
		if i%7 == 0 {
			wantNext(t, s, next)
			next++
		}
	}
}

// P10.1: each of Vars takes a Fresh one; of two for one var the first counts.
func TestTakeOfVarsThatAreThereTwice(t *testing.T) {
	wantTake(t, 0, forall(tuple(5, 6), 5, 5), tuple(0, 6))
	wantTake(t, 0, forall(tuple(5, 6), 5, 5, 6, 5), tuple(0, 2))
	wantTake(t, 5, forall(tuple(5, 6, 7), 6, 5, 6), tuple(6, 5, 7))
}

// P10.1: what is said of vars is neither asked nor changed.
func TestTakeSaysNothing(t *testing.T) {
	s := unify.New()
	all := tuple(upTo(0, 20)...)
	s.Unify(variable(0), num)
	s.Unify(variable(3), list(variable(4)))
	s.Unify(variable(4), variable(9))
	was := s.Of(all)
	for i, want := range []api.Type{tuple(0, 1, 3, 4, 9), tuple(2, 3, 3, 4, 9), tuple(4, 5, 3, 4, 9)} {
		if got := Take(s, forall(tuple(0, 1, 3, 4, 9), 0, 1)); !typ.Same(got, want) {
			t.Errorf("%d: %v, want %v", i, got, want)
		}
	}
	if now := s.Of(all); !typ.Same(now, was) {
		t.Errorf("what is said was %s, is %s", few(was), few(now))
	}
	wantNext(t, s, 6)
	a, b := Take(s, forall(variable(0), 0)), Take(s, forall(variable(0), 0))
	if !s.Unify(a, num) || !s.Unify(b, truth) || !typ.Same(s.Of(pair(a, b)), pair(num, truth)) {
		t.Error("two that are taken are not each for itself")
	}
}

// W8
func TestTakeOfANilSub(t *testing.T) {
	for _, x := range []api.Scheme{{}, forall(num), forall(variable(3)), forall(list(variable(3)), 3), forall(tuple(1, 2), 2)} {
		if got := Take(nil, x); got.Op != "" || got.N != 0 || len(got.Kids) != 0 {
			t.Errorf("Take of a nil Sub and %v: %v", x, got)
		}
	}
}

// P10.1: a Sub that New did not make.
func TestTakeOfAnotherSub(t *testing.T) {
	var s unify.Sub
	if got := Take(&s, forall(tuple(4, 3), 3, 4)); !typ.Same(got, tuple(1, 0)) {
		t.Errorf("got %v", got)
	}
	wantNext(t, &s, 2)
}

// P10.1: names that are there once, more than once, not at all.
func TestLook(t *testing.T) {
	env := []api.Bound{
		bound("x", num), bound("y", tuple(7, 4), 7), bound("x", variable(2), 2), bound("z", list(variable(0)), 1, 0), bound("x", truth, 5),
		bound("z", num), bound("long_name'12", ty("cell")), bound("X", ty("unit")), bound("\x00", num, 1), bound("\xff\x00", num, 2),
	}
	for _, name := range []string{"x", "y", "z", "X", "long_name'12", "\x00", "\xff\x00"} {
		wantLook(t, env, name)
		if i := expectedLook(env, name); i < 0 {
			t.Errorf("%q is not there", name)
		}
	}
	for _, name := range []string{"", "w", "xx", "x ", " x", "Y", "x\x00", "\x00\x00", "\xff", "\xfe\x00", "long_name'1", "long_name'123", strings.Repeat("x", 5000)} {
		wantLook(t, env, name)
		if i := expectedLook(env, name); i >= 0 {
			t.Errorf("%q is there", name)
		}
		with := slices.Concat(env[:4], []api.Bound{bound(name, list(num), 3)}, env[4:])
		wantLook(t, with, name)
		wantLook(t, with, "x")
		wantLook(t, append(with, bound(name, list(truth))), name)
	}
}

// P10.1: the last one, wherever it is.
func TestLookOfTheLast(t *testing.T) {
	for n := 1; n <= 7; n++ {
		for which := range 1 << n {
			var env []api.Bound
			for i := range n {
				env = append(env, bound([]string{"", "a"}[which>>i&1], tuple(i, 8), i))
			}
			for _, name := range []string{"", "a", "b"} {
				wantLook(t, env, name)
			}
		}
	}
	x, ok := Look([]api.Bound{bound("a", variable(1), 1), bound("a", api.Type{})}, "a")
	if !ok || len(x.Vars) != 0 || x.Type.Op != "" {
		t.Errorf("an empty scheme: %v, %v", x, ok)
	}
}

// P10.1: what is made for all and taken is the type, its vars renamed, but for
// those that are free.
func TestTakeOfWhatIsGeneral(t *testing.T) {
	r := rand.New(rand.NewSource(40))
	for range 2000 {
		x := randomType(r, 1+r.Intn(40))
		s := freshFrom(1000)
		got := Take(s, General(nil, x))
		if !typ.Same(typ.Norm(got), typ.Norm(x)) || slices.ContainsFunc(numbers(got), func(n int) bool { return n < 1000 }) {
			t.Fatalf("%s for all, taken, is %s", few(x), few(got))
		}
		env := []api.Bound{bound("x", x)}
		if got := Take(s, General(env, x)); !typ.Same(got, x) {
			t.Fatalf("%s for none, taken, is %s", few(x), few(got))
		}
		wantFree(t, []api.Bound{{Scheme: General(nil, x)}})
		wantFree(t, []api.Bound{{Scheme: General(env, x)}}, expectedFree(env)...)
	}
}

// nones is what is no type.
func nones() []api.Type {
	return []api.Type{{}, ty("char"), ty("", num), ty("char", variable(0)), ty("int", num), ty("int", variable(0), variable(1)), ty("list"), ty("list", num, variable(2)), ty("pair"),
		ty("pair", num), ty("pair", num, variable(1), num), ty("fun", variable(0)), ty("ref"), {Op: "int", N: 1}, {Op: "int", N: math.MinInt}, {Op: "list", N: 3, Kids: []api.Type{variable(0)}},
		variable(-1), variable(math.MinInt), ty("var", num), {Op: "var", N: 1, Kids: []api.Type{variable(0)}}, {Op: "var", N: 1, Kids: []api.Type{variable(1)}}, ty("VAR"), ty("var ", variable(0)), ty("\xff\x00")}
}

// renamed is t with the vars of l numbered first, first + 1 and so on, whatever
// it is.
func renamed(t api.Type, first int, l []int) api.Type {
	if i := slices.Index(l, t.N); i >= 0 && t.Op == "var" {
		t.N = first + i
	}
	kids := t.Kids
	t.Kids = nil
	for _, k := range kids {
		t.Kids = append(t.Kids, renamed(k, first, l))
	}
	return t
}

// W1: whatever is handed in, no call panics, and it goes by the same words.
func TestWhatIsNoType(t *testing.T) {
	for _, a := range nones() {
		for _, b := range append(nones(), num, list(variable(3))) {
			for _, own := range [][]int{nil, {0}, {1, -1}, {math.MinInt, 3, 0, 1, 2}} {
				env := []api.Bound{bound("x", a, own...), bound("\xff", list(a), own...)}
				free := slices.DeleteFunc(typ.Vars(a), func(n int) bool { return slices.Contains(own, n) })
				slices.Sort(free)
				wantFree(t, env, free...)
				vars := slices.DeleteFunc(typ.Vars(b), func(n int) bool { return slices.Contains(free, n) })
				wantGeneral(t, env, b, vars...)
				wantTake(t, 2, forall(pair(a, b), own...), renamed(pair(a, b), 2, own))
				wantLook(t, env, "x")
				wantLook(t, env, "\xff")
			}
		}
	}
	wantFree(t, []api.Bound{bound("x", tuple(3, -1, math.MinInt, -7, 0), 3)}, math.MinInt, -7, -1, 0)
}

// bush is a type that has vars of those numbers, half of them beside the other
// half.
func bush(numbers ...int) api.Type {
	if len(numbers) == 1 {
		return variable(numbers[0])
	}
	half := len(numbers) / 2
	return fun(bush(numbers[:half]...), bush(numbers[half:]...))
}

// W1: types as deep as they may be, and far more vars than a program has.
func TestManyVarsAndDeepTypes(t *testing.T) {
	const n = 1<<16 - 1
	perm := rand.New(rand.NewSource(50)).Perm(n)
	isOdd := func(i int) bool { return i%2 == 1 }
	even := slices.DeleteFunc(upTo(0, n), isOdd)
	odd := slices.DeleteFunc(upTo(0, n), func(i int) bool { return !isOdd(i) })
	for _, grow := range []func(...int) api.Type{tuple, leftward, bush} {
		x := grow(perm...)
		wantFree(t, []api.Bound{bound("x", x)}, upTo(0, n)...)
		wantFree(t, []api.Bound{bound("x", x, even...)}, odd...)
		wantFree(t, []api.Bound{bound("x", x, perm...)})
		wantGeneral(t, nil, x, perm...)
		wantGeneral(t, []api.Bound{bound("x", x, odd...)}, x, slices.DeleteFunc(slices.Clone(perm), func(i int) bool { return !isOdd(i) })...)
		wantTake(t, 9, forall(x, perm...), grow(upTo(9, n)...))
		wantTake(t, n, forall(x), x)
	}
	x := row(n+1, variable(7))
	wantFree(t, []api.Bound{bound("x", x)}, 7)
	wantGeneral(t, nil, x, 7)
	wantTake(t, 3, forall(x, 7), row(n+1, variable(3)))
	wantTake(t, 3, forall(list(variable(n)), upTo(0, n+1)...), list(variable(n+3)))
}

// W1: an env of far more schemes than a program has.
func TestManySchemes(t *testing.T) {
	const n = 1 << 16
	var env []api.Bound
	for _, i := range rand.New(rand.NewSource(60)).Perm(n) {
		env = append(env, bound(strconv.Itoa(i%1000), tuple(i, i+1), i+1))
	}
	wantFree(t, env, upTo(0, n)...)
	wantGeneral(t, env, tuple(n+1, 3, n, 5), n+1, n)
	for i := range 1001 {
		wantLook(t, env, strconv.Itoa(i))
	}
}

// randomType is one of at most room nodes.
func randomType(r *rand.Rand, room int) api.Type {
	o := ops[leaves+r.Intn(len(ops)-leaves)]
	if room <= o.kids || r.Intn(10) == 0 {
		if r.Intn(4) > 0 {
			return variable(r.Intn(1 << r.Intn(6)))
		}
		return ty(ops[r.Intn(leaves)].op)
	}
	room--
	if o.kids == 1 {
		return ty(o.op, randomType(r, room))
	}
	left := 1 + r.Intn(room-1)
	return ty(o.op, randomType(r, left), randomType(r, room-left))
}

// randomEnv is schemes some of whose Vars their types have.
func randomEnv(r *rand.Rand, most int) (env []api.Bound) {
	for range r.Intn(most + 1) {
		x := randomType(r, 1+r.Intn(25))
		vars := append(numbers(x), r.Perm(8)...)
		r.Shuffle(len(vars), func(i, j int) { vars[i], vars[j] = vars[j], vars[i] })
		env = append(env, bound([]string{"", "a", "b", "c"}[r.Intn(4)], x, vars[:r.Intn(len(vars))]...))
	}
	return env
}

// P10.1
func TestRandomEnvs(t *testing.T) {
	r := rand.New(rand.NewSource(70))
	for range 3000 {
		wantExpected(t, randomEnv(r, 8), randomType(r, 1+r.Intn(40)))
	}
	for range 20 {
		wantExpected(t, randomEnv(r, 200), randomType(r, 4000))
	}
}

// small is all types of at most that many nodes, of few leaves.
func small(most int) (all []api.Type) {
	sizes := [][]api.Type{{variable(0), variable(1), variable(2), num}}
	for n := 2; n <= most; n++ {
		var l []api.Type
		for _, k := range sizes[n-2] {
			l = append(l, list(k))
		}
		for first := 1; first <= n-2; first++ {
			for _, a := range sizes[first-1] {
				for _, b := range sizes[n-2-first] {
					l = append(l, fun(a, b))
				}
			}
		}
		sizes = append(sizes, l)
	}
	return slices.Concat(sizes...)
}

// P10.1: all small types with all few Vars, beside each other in an env.
func TestEverySmallScheme(t *testing.T) {
	vars := [][]int{nil, {0}, {1}, {2}, {0, 1}, {1, 0}, {2, 1}, {0, 1, 2}, {2, 1, 0}}
	var env []api.Bound
	for i, x := range small(5) {
		for _, own := range vars {
			env = append(env, bound(strconv.Itoa(i%2), x, own...))
			wantExpected(t, env[max(len(env)-3, 0):], x)
		}
	}
}

// spareType is t with room behind the end of each of its lists, in which other
// types stand.
func spareType(t api.Type) api.Type {
	kids := make([]api.Type, 0, len(t.Kids)+2)
	for _, k := range t.Kids {
		kids = append(kids, spareType(k))
	}
	t.Kids = append(kids, variable(81), variable(82))[:len(kids)]
	return t
}

// typeStays tells whether t is what spareType made of was, spare room too.
func typeStays(t, was api.Type) bool {
	if t.Op != was.Op || t.N != was.N || len(t.Kids) != len(was.Kids) || cap(t.Kids) != len(t.Kids)+2 {
		return false
	}
	behind := t.Kids[len(t.Kids):cap(t.Kids)]
	return typ.Same(behind[0], variable(81)) && typ.Same(behind[1], variable(82)) && slices.EqualFunc(t.Kids, was.Kids, typeStays)
}

// spareScheme is x with such room, in its Vars too.
func spareScheme(x api.Scheme) api.Scheme {
	vars := append(make([]int, 0, len(x.Vars)+2), x.Vars...)
	return api.Scheme{Vars: append(vars, 83, 84)[:len(vars)], Type: spareType(x.Type)}
}

func schemeStays(x, was api.Scheme) bool {
	return cap(x.Vars) == len(x.Vars)+2 && slices.Equal(x.Vars[:cap(x.Vars)], append(slices.Clone(was.Vars), 83, 84)) && typeStays(x.Type, was.Type)
}

// spareEnv is env with such room, behind its own end too.
func spareEnv(env []api.Bound) []api.Bound {
	l := make([]api.Bound, 0, len(env)+1)
	for _, b := range env {
		l = append(l, api.Bound{Name: b.Name, Scheme: spareScheme(b.Scheme)})
	}
	return append(l, bound("behind", variable(85), 86))[:len(env)]
}

func envStays(env, was []api.Bound) bool {
	same := func(a, b api.Bound) bool { return a.Name == b.Name && schemeStays(a.Scheme, b.Scheme) }
	if cap(env) != len(env)+1 || !slices.EqualFunc(env, was, same) {
		return false
	}
	behind := env[:cap(env)][len(env)]
	return behind.Name == "behind" && sameScheme(behind.Scheme, forall(variable(85), 86))
}

// spoilType changes all that t has, the spare room of its lists too;
// spoilScheme does so with a scheme, and spoilEnv with an env.
func spoilType(t api.Type) {
	l := t.Kids[:cap(t.Kids)]
	for i := range l {
		spoilType(l[i])
		l[i] = api.Type{Op: "spoiled", N: -5}
	}
}

func spoilScheme(x api.Scheme) {
	spoilVars(x.Vars)
	spoilType(x.Type)
}

func spoilVars(l []int) {
	l = l[:cap(l)]
	for i := range l {
		l[i] = -7
	}
}

func spoilEnv(env []api.Bound) {
	env = env[:cap(env)]
	for i := range env {
		spoilScheme(env[i].Scheme)
		env[i] = bound("spoiled", api.Type{Op: "spoiled"}, -9)
	}
}

// someEnvs is envs, each with a type.
func someEnvs() (l []given) {
	r := rand.New(rand.NewSource(80))
	for range 200 {
		l = append(l, given{randomEnv(r, 5), randomType(r, 1+r.Intn(40))})
	}
	shared := pair(variable(5), list(variable(4)))
	env := []api.Bound{bound("a", fun(shared, shared), 4), bound("b", shared, 4, 5)}
	for _, x := range nones() {
		l = append(l, given{[]api.Bound{bound("c", x, 0), bound("b", list(x), 1, 2)}, pair(x, x)})
	}
	return append(l, given{env, pair(shared, shared)}, given{nil, shared}, given{env, num}, given{})
}

type given struct {
	env []api.Bound
	t   api.Type
}

// names is what each given env is asked for.
func names() []string { return []string{"", "a", "b", "c", "behind", "d"} }

// P10.2, W6
func TestNothingIsChanged(t *testing.T) {
	var s *unify.Sub
	calls := []struct {
		name string
		call func(env []api.Bound, x api.Scheme)
	}{
		{"Free", func(env []api.Bound, x api.Scheme) { spoilVars(Free(env)) }},
		{"General", func(env []api.Bound, x api.Scheme) { spoilScheme(General(env, x.Type)) }},
		{"Take", func(env []api.Bound, x api.Scheme) {
			spoilType(Take(s, x))
			for _, b := range env {
				spoilType(Take(s, b.Scheme))
			}
		}},
		{"Look", func(env []api.Bound, x api.Scheme) {
			for _, name := range names() {
				x, _ := Look(env, name)
				spoilScheme(x)
			}
		}},
	}
	for _, g := range someEnvs() {
		x := forall(g.t, 3, 1, 5, 3)
		env, y := spareEnv(g.env), spareScheme(x)
		for _, s = range []*unify.Sub{unify.New(), nil} {
			for _, c := range calls {
				if c.call(env, y); !envStays(env, g.env) || !schemeStays(y, x) {
					t.Fatalf("%s changes %s or %s", c.name, few(g.env), few(x))
				}
			}
		}
	}
}

// places is where each element of lists lies, spare room too.
type places struct {
	types map[*api.Type]bool
	ints  map[*int]bool
	twice bool
}

func (p *places) addType(t api.Type) {
	l := t.Kids[:cap(t.Kids)]
	for i := range l {
		p.twice = p.twice || p.types[&l[i]]
		p.types[&l[i]] = true
		p.addType(l[i])
	}
}

func (p *places) addVars(l []int) {
	l = l[:cap(l)]
	for i := range l {
		p.twice = p.twice || p.ints[&l[i]]
		p.ints[&l[i]] = true
	}
}

func (p *places) addScheme(x api.Scheme) {
	p.addVars(x.Vars)
	p.addType(x.Type)
}

// W6: no two lists of what is answered share memory, also where those handed
// in do, none with what was handed in, and none with another answer.
func TestAnswersAreNewMemory(t *testing.T) {
	for _, g := range someEnvs() {
		p := places{types: map[*api.Type]bool{}, ints: map[*int]bool{}}
		x := forall(g.t, 3, 1, 5)
		p.addScheme(x)
		for _, b := range g.env {
			p.addScheme(b.Scheme)
		}
		p.twice = false
		s := unify.New()
		for range 2 {
			p.addVars(Free(g.env))
			p.addScheme(General(g.env, g.t))
			p.addType(Take(s, x))
			for _, b := range g.env {
				p.addType(Take(s, b.Scheme))
			}
			for _, name := range names() {
				y, _ := Look(g.env, name)
				p.addScheme(y)
			}
			if p.twice {
				t.Fatalf("answers of %s share memory", few(g))
			}
		}
	}
}

// answers is what all calls answer of g.
type answers struct {
	free    []int
	schemes []api.Scheme
}

func allOf(g given) (a answers) {
	s := unify.New()
	a.free = Free(g.env)
	a.schemes = append(a.schemes, General(g.env, g.t), forall(Take(s, forall(g.t, 3, 1, 5))))
	for _, b := range g.env {
		a.schemes = append(a.schemes, forall(Take(s, b.Scheme)))
	}
	for _, name := range names() {
		x, _ := Look(g.env, name)
		a.schemes = append(a.schemes, x)
	}
	return a
}

func (a answers) same(b answers) bool {
	return slices.Equal(a.free, b.free) && slices.EqualFunc(a.schemes, b.schemes, sameScheme)
}

// W2, W6, W7: an answer is the same again, and stays what it is, whatever
// happens to what was handed in and to other answers.
func TestAnswersStay(t *testing.T) {
	for _, g := range someEnvs() {
		was := allOf(g)
		mine := given{spareEnv(g.env), spareType(g.t)}
		got := allOf(mine)
		other := allOf(mine)
		spoilVars(other.free)
		for _, x := range other.schemes {
			spoilScheme(x)
		}
		if !allOf(mine).same(was) {
			t.Fatalf("%s has other answers the second time", few(g))
		}
		spoilEnv(mine.env)
		spoilType(mine.t)
		if !got.same(was) {
			t.Fatalf("answers of %s do not stay", few(g))
		}
	}
}

// read is the type that bytes tell, and the bytes behind it: of a byte the
// Op, and of a var its number.
func read(b []byte, deep int) (api.Type, []byte) {
	if len(b) == 0 || deep == 0 {
		return num, nil
	}
	i := int(b[0]) % (2 * len(ops))
	if i >= len(ops) {
		return variable(int(b[0]) % 16), b[1:]
	}
	x := ty(ops[i].op)
	b = b[1:]
	for range ops[i].kids {
		var k api.Type
		k, b = read(b, deep-1)
		x.Kids = append(x.Kids, k)
	}
	return x, b
}

// Whatever the env and the type: what the document asks of them.
func FuzzScheme(f *testing.F) {
	for _, s := range []string{"", "\x00\x0a", "\x03\x08\x09\x08\x0a\x09\x02\x09\x0a", "\x11\x07\x0b\x0c\x01\x0c\x22\x07\x0c\x0b\x08\x0b\x0d", strings.Repeat("\x12\x07\x0a\x0b\x0a\x0c", 5)} {
		f.Add([]byte(s))
	}
	f.Fuzz(func(t *testing.T, b []byte) {
		x, b := read(b, 1000)
		var env []api.Bound
		for len(b) > 0 && len(env) < 20 {
			n := int(b[0])
			var y api.Type
			y, b = read(b[1:], 1000)
			own := min(n%8, len(b))
			e := bound([]string{"", "a", "b"}[n/8%3], y)
			for _, c := range b[:own] {
				e.Scheme.Vars = append(e.Scheme.Vars, int(c)%16)
			}
			env, b = append(env, e), b[own:]
		}
		wantExpected(t, env, x)
	})
}
