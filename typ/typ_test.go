package typ

import (
	"fmt"
	"math"
	"math/rand"
	"regexp"
	"slices"
	"strconv"
	"strings"
	"testing"

	"emissary/api"
)

// form is an Op's text as the document writes it: N is its number, 0 and 1 are
// its kids.
type form struct {
	op, text string
	kids     int
}

// forms is each Op: those that have no kids come first.
var forms = []form{
	{"int", "int", 0}, {"bool", "bool", 0}, {"unit", "unit", 0}, {"string", "string", 0}, {"cell", "cell", 0}, {"var", "'N", 0},
	{"list", "0 list", 1}, {"ref", "0 ref", 1},
	{"pair", "(0 * 1)", 2}, {"fun", "(0 -> 1)", 2},
}

const leaves = 6

func ty(op string, kids ...api.Type) api.Type { return api.Type{Op: op, Kids: kids} }

func variable(n int) api.Type { return api.Type{Op: "var", N: n} }

// sample is a type of the form; its kids are a bool and a string.
func (f form) sample() api.Type {
	return ty(f.op, []api.Type{ty("bool"), ty("string")}[:f.kids]...)
}

// nones is types that are none, each by one thing.
func nones() []api.Type {
	n := ty("int")
	return []api.Type{{}, ty("char"), ty("", n), ty("int", n), ty("var", n), variable(-1), variable(math.MinInt), {Op: "int", N: 1}, {Op: "cell", N: -1},
		{Op: "list", N: 1, Kids: []api.Type{n}}, {Op: "fun", N: -1, Kids: []api.Type{n, n}}, ty("list"), ty("ref", n, n), ty("pair"), ty("pair", n), ty("pair", n, n, n), ty("fun", n)}
}

// expectedIs is what the document asks of t, MaxNodes aside.
func expectedIs(t api.Type) bool {
	i := slices.IndexFunc(forms, func(f form) bool { return f.op == t.Op })
	if i < 0 || forms[i].kids != len(t.Kids) || t.N < 0 || t.N != 0 && t.Op != "var" {
		return false
	}
	return !slices.ContainsFunc(t.Kids, func(k api.Type) bool { return !expectedIs(k) })
}

// expectedShow is t's text by the document's forms.
func expectedShow(t api.Type) string {
	i := slices.IndexFunc(forms, func(f form) bool { return f.op == t.Op })
	var b strings.Builder
	for _, c := range forms[i].text {
		switch c {
		case 'N':
			b.WriteString(strconv.Itoa(t.N))
		case '0', '1':
			b.WriteString(expectedShow(t.Kids[c-'0']))
		default:
			b.WriteRune(c)
		}
	}
	return b.String()
}

var varLike = regexp.MustCompile(`'[0-9]+`)

// expectedVars is the numbers that a type's text tells.
func expectedVars(text string) (l []int) {
	seen := map[string]bool{}
	for _, s := range varLike.FindAllString(text, -1) {
		if n, _ := strconv.Atoi(s[1:]); !seen[s] {
			seen[s] = true
			l = append(l, n)
		}
	}
	return l
}

// expectedNorm is the text with its vars numbered as they come.
func expectedNorm(text string) string {
	names := map[string]string{}
	return varLike.ReplaceAllStringFunc(text, func(s string) string {
		if names[s] == "" {
			names[s] = "'" + strconv.Itoa(len(names))
		}
		return names[s]
	})
}

// few is what a message tells of t.
func few(t api.Type) string {
	s := fmt.Sprint(t)
	return s[:min(len(s), 200)]
}

// within is x at the top, and at each place further down.
func within(x api.Type) []api.Type {
	all := []api.Type{x}
	for _, f := range forms {
		for i := range f.kids {
			outer := f.sample()
			outer.Kids[i] = x
			all = append(all, outer, ty("pair", ty("cell"), ty("ref", outer)), ty("pair", outer, ty("int")), ty("list", ty("list", outer)))
		}
	}
	return all
}

// each calls f with each node of t.
func each(t *api.Type, f func(*api.Type)) {
	f(t)
	for i := range t.Kids {
		each(&t.Kids[i], f)
	}
}

func size(t api.Type) (n int) {
	each(&t, func(*api.Type) { n++ })
	return n
}

// copied is t in memory of its own.
func copied(t api.Type) api.Type {
	kids := t.Kids
	t.Kids = nil
	for _, k := range kids {
		t.Kids = append(t.Kids, copied(k))
	}
	return t
}

// row is n nodes, each the only kid of the one above it; core is the last.
func row(n int, core api.Type) api.Type {
	for i := range n - 1 {
		core = ty([]string{"list", "ref"}[i%2], core)
	}
	return core
}

// bush is n nodes, half of them beside the other half.
func bush(n int) api.Type {
	switch n {
	case 1:
		return variable(7)
	case 2:
		return ty("ref", ty("int"))
	}
	left := (n - 1) / 2
	return ty("fun", bush(left), bush(n-1-left))
}

// comb is n nodes, an odd number, that go down by their first or last kids.
func comb(n, down int, core api.Type) api.Type {
	for i := range (n - 1) / 2 {
		kids := []api.Type{variable(i), variable(i)}
		kids[down] = core
		core = ty("pair", kids...)
	}
	return core
}

// doubled is 2^n - 1 nodes, of which all of a depth are one in memory.
func doubled(n int) api.Type {
	x := variable(3)
	for range n - 1 {
		x = ty("pair", x, x)
	}
	return x
}

func wantIs(t *testing.T, x api.Type, want bool) {
	t.Helper()
	for _, x := range within(x) {
		if got := Is(x); got != want {
			t.Errorf("Is(%s): %v, want %v", few(x), got, want)
		}
	}
}

func wantSame(t *testing.T, a, b api.Type, want bool) {
	t.Helper()
	if Same(a, b) != want || Same(b, a) != want {
		t.Errorf("Same(%s, %s): %v", few(a), few(b), !want)
	}
}

func wantVars(t *testing.T, x api.Type, want ...int) {
	t.Helper()
	if got := Vars(x); !slices.Equal(got, want) {
		t.Errorf("Vars(%s): %.300v, want %.300v", few(x), got, want)
	}
}

func wantNorm(t *testing.T, x, want api.Type) {
	t.Helper()
	got := Norm(x)
	wantSame(t, got, want, true)
	wantSame(t, Norm(got), got, true)
}

func wantShow(t *testing.T, x api.Type, want string) {
	t.Helper()
	if got := Show(x); got != want {
		t.Errorf("Show(%s): %.300q, want %.300q", few(x), got, want)
	}
}

// wantExpected holds each call against what the document asks of x, a type of
// any size.
func wantExpected(t *testing.T, x api.Type) {
	t.Helper()
	if got, want := Is(x), size(x) <= 2000; got != want {
		t.Errorf("Is(%s): %v, want %v", few(x), got, want)
	}
	text := expectedShow(x)
	wantShow(t, x, text)
	wantVars(t, x, expectedVars(text)...)
	wantShow(t, Norm(x), expectedNorm(text))
	wantSame(t, Norm(Norm(x)), Norm(x), true)
	wantSame(t, x, Norm(x), text == expectedNorm(text))
	if got, want := Sent(x), !strings.ContainsAny(text, "'>"); got != want {
		t.Errorf("Sent(%s): %v, want %v", few(x), got, want)
	}
}

// P8.1: each Op with each number of kids.
func TestNumbersOfKids(t *testing.T) {
	for _, f := range forms {
		wantIs(t, f.sample(), true)
		for kids := range 6 {
			x := ty(f.op, slices.Repeat([]api.Type{ty("unit")}, kids)...)
			wantIs(t, x, kids == f.kids)
		}
	}
}

// P8.1, W5
func TestNoKidsNilOrEmpty(t *testing.T) {
	for _, f := range forms[:leaves] {
		a, b := api.Type{Op: f.op}, api.Type{Op: f.op, Kids: []api.Type{}}
		wantIs(t, a, true)
		wantIs(t, b, true)
		wantSame(t, a, b, true)
		wantSame(t, ty("list", a), ty("list", b), true)
		wantExpected(t, b)
	}
	wantSame(t, ty("list"), api.Type{Op: "list", Kids: []api.Type{}}, true)
}

// P8.1
func TestOpsThatAreNone(t *testing.T) {
	for _, op := range []string{
		"", " ", "char", "Int", "INT", "int ", " int", "in", "ints", "str", "vars", "va", "'", "'0", "*", "->", "tuple", "nil", "lists", "Fun", "funs", "fu",
		"int\x00", "\x00", "\xff", "é", "boolean", "void", "(int * int)", "int list", strings.Repeat("a", 5000),
	} {
		for kids := range 4 {
			wantIs(t, ty(op, slices.Repeat([]api.Type{ty("int")}, kids)...), false)
		}
	}
	if Is(api.Type{}) {
		t.Error("an empty type is one")
	}
}

// P8.1
func TestNumbersOfEachOp(t *testing.T) {
	for _, n := range []int{0, 1, 2, 9, 10, 1999, 2000, 2001, 1 << 31, 1 << 32, 1 << 53, math.MaxInt - 1, math.MaxInt} {
		wantIs(t, variable(n), true)
	}
	for _, n := range []int{-1, -2, -10, -1 << 31, -1 << 32, math.MinInt + 1, math.MinInt} {
		wantIs(t, variable(n), false)
	}
	for _, f := range forms {
		for _, n := range []int{1, -1, 2, 256, 1 << 32, math.MaxInt, math.MinInt} {
			if x := f.sample(); f.op != "var" {
				x.N = n
				wantIs(t, x, false)
			}
		}
	}
}

// P8.1: as each kid of each Op, and further down.
func TestWhatIsNoTypeAsAKid(t *testing.T) {
	for _, none := range nones() {
		if expectedIs(none) {
			t.Fatalf("%v is one", none)
		}
		wantIs(t, none, false)
		for _, f := range forms {
			for i := range f.kids {
				x := f.sample()
				x.Kids[i] = none
				wantIs(t, x, false)
			}
		}
	}
}

// P8.1
func TestMostNodes(t *testing.T) {
	for n := api.MaxNodes - 3; n <= api.MaxNodes+4; n++ {
		shapes := []api.Type{row(n, ty("int")), row(n, variable(5)), bush(n), ty("pair", row(n/2, ty("cell")), row(n-1-n/2, ty("unit"))),
			ty("fun", row(n-2, ty("int")), ty("bool")), ty("fun", ty("bool"), row(n-2, ty("int")))}
		if n%2 == 1 {
			shapes = append(shapes, comb(n, 0, variable(0)), comb(n, 1, variable(0)))
		}
		for i, x := range shapes {
			if size(x) != n {
				t.Fatalf("shape %d of %d nodes has %d", i, n, size(x))
			}
			if got, want := Is(x), n <= api.MaxNodes; got != want {
				t.Errorf("shape %d of %d nodes: Is %v, want %v", i, n, got, want)
			}
			wantExpected(t, x)
		}
	}
}

// P8.1: the last of MaxNodes nodes has a fault.
func TestFaultInTheLastNode(t *testing.T) {
	for _, none := range nones() {
		rest := api.MaxNodes - size(none)
		x := none
		for range rest {
			x = ty("list", x)
		}
		y := ty("pair", bush(rest-1), none)
		if size(x) != api.MaxNodes || size(y) != api.MaxNodes {
			t.Fatalf("%d, %d nodes", size(x), size(y))
		}
		if Is(x) || Is(y) {
			t.Errorf("MaxNodes nodes with the fault %v are one", none)
		}
	}
}

// P8.1, W1: also where a type goes round.
func TestManyMoreNodes(t *testing.T) {
	loop := make([]api.Type, 2)
	loop[0], loop[1] = ty("pair", loop...), ty("fun", loop...)
	wide := ty("pair", slices.Repeat([]api.Type{row(100, ty("int"))}, 100000)...)
	for i, x := range []api.Type{row(5000, ty("int")), row(1<<16, ty("int")), bush(100000), comb(1<<16+1, 0, ty("int")), comb(1<<16+1, 1, ty("int")),
		wide, ty("pair", bush(3000), bush(3000)), doubled(12), doubled(60), doubled(1 << 15), loop[0], ty("list", loop[1])} {
		if Is(x) {
			t.Errorf("%d: so many nodes are one", i)
		}
	}
	if !Is(doubled(10)) {
		t.Error("1023 nodes that share are none")
	}
}

// large is all Ops in one type.
func large() api.Type {
	x := ty("fun", variable(12), variable(3))
	for _, f := range forms {
		y := f.sample()
		if f.kids == 0 {
			y = ty("pair", y, ty("unit"))
		}
		y.Kids[len(y.Kids)-1] = x
		x = y
	}
	return ty("pair", x, variable(3))
}

// turns change one thing of a node.
func turns() []func(*api.Type) {
	return []func(*api.Type){
		func(x *api.Type) { x.Op += "s" },
		func(x *api.Type) { x.Op = strings.Repeat("int", max(1-len(x.Op), 0)) },
		func(x *api.Type) { x.Op += "\x00" },
		func(x *api.Type) { x.N++ },
		func(x *api.Type) { x.N = ^x.N },
		func(x *api.Type) { x.N += 1 << 32 },
		func(x *api.Type) { x.Kids = append(slices.Clone(x.Kids), ty("int")) },
		func(x *api.Type) { x.Kids = append(slices.Clone(x.Kids), api.Type{}) },
		func(x *api.Type) { x.Kids = append([]api.Type{ty("bool")}, x.Kids...) },
	}
}

// P8.1: one thing of one node differs, at any depth, also of what is no type.
func TestSameOfTwoThatDiffer(t *testing.T) {
	all := append([]api.Type{large(), row(20, ty("int")), bush(21), comb(21, 0, ty("cell")), comb(21, 1, ty("cell")), ty("nope", large(), ty("", large()))}, nones()...)
	for _, f := range forms {
		all = append(all, f.sample())
	}
	for _, x := range all {
		wantSame(t, x, x, true)
		wantSame(t, x, copied(x), true)
		for which := range size(x) {
			for _, turn := range turns() {
				other := copied(x)
				at := -1
				each(&other, func(k *api.Type) {
					if at++; at == which {
						turn(k)
					}
				})
				wantSame(t, x, other, false)
			}
		}
	}
}

// P8.1
func TestSameOfOpsAndKids(t *testing.T) {
	for _, f := range forms {
		for _, g := range forms {
			wantSame(t, f.sample(), g.sample(), f.op == g.op)
			wantSame(t, ty(f.op), ty(g.op), f.op == g.op)
		}
		for i := range f.kids {
			fewer := f.sample()
			fewer.Kids = slices.Delete(fewer.Kids, i, i+1)
			wantSame(t, f.sample(), fewer, false)
		}
	}
	a, b, c := ty("int"), ty("bool"), variable(1)
	wantSame(t, ty("pair", a, b), ty("pair", b, a), false)
	wantSame(t, ty("fun", a, ty("fun", b, c)), ty("fun", ty("fun", a, b), c), false)
	wantSame(t, ty("list", ty("ref", a)), ty("ref", ty("list", a)), false)
	wantSame(t, c, variable(2), false)
	wantSame(t, ty("fun", c, c), ty("fun", variable(2), variable(2)), false)
	for i, x := range nones() {
		for j, y := range nones() {
			wantSame(t, x, y, i == j)
			wantSame(t, ty("list", x), ty("list", y), i == j)
		}
	}
}

// P8.1, W1: far more nodes than MaxNodes are held against each other too.
func TestSameOfMany(t *testing.T) {
	for _, grow := range []func(int, api.Type) api.Type{
		row,
		func(n int, core api.Type) api.Type { return comb(n, 0, core) },
		func(n int, core api.Type) api.Type { return comb(n, 1, core) },
	} {
		n := 1<<16 - 1
		x := grow(n, ty("int"))
		wantSame(t, x, grow(n, ty("int")), true)
		wantSame(t, x, grow(n-2, ty("int")), false)
		wantSame(t, x, grow(n, ty("bool")), false)
		wantSame(t, x, grow(n, api.Type{Op: "int", N: 1}), false)
	}
}

// P8.1
func TestVarsAndNorm(t *testing.T) {
	v := variable
	for _, x := range []struct {
		given api.Type
		vars  []int
		norm  api.Type
	}{
		{ty("list", ty("pair", ty("int"), v(3))), []int{3}, ty("list", ty("pair", ty("int"), v(0)))},
		{v(0), []int{0}, v(0)},
		{v(math.MaxInt), []int{math.MaxInt}, v(0)},
		{ty("pair", v(1), v(0)), []int{1, 0}, ty("pair", v(0), v(1))},
		{ty("pair", v(0), v(1)), []int{0, 1}, ty("pair", v(0), v(1))},
		{ty("fun", v(9), ty("fun", v(2), v(9))), []int{9, 2}, ty("fun", v(0), ty("fun", v(1), v(0)))},
		{ty("fun", ty("fun", v(4), v(2)), ty("fun", v(2), v(1))), []int{4, 2, 1}, ty("fun", ty("fun", v(0), v(1)), ty("fun", v(1), v(2)))},
		{ty("fun", ty("pair", v(5), ty("list", v(7))), ty("ref", v(6))), []int{5, 7, 6}, ty("fun", ty("pair", v(0), ty("list", v(1))), ty("ref", v(2)))},
		{ty("pair", v(2), ty("pair", v(1), v(0))), []int{2, 1, 0}, ty("pair", v(0), ty("pair", v(1), v(2)))},
		{ty("pair", ty("pair", v(1), v(2)), v(0)), []int{1, 2, 0}, ty("pair", ty("pair", v(0), v(1)), v(2))},
		{ty("pair", v(3), ty("pair", v(3), v(3))), []int{3}, ty("pair", v(0), ty("pair", v(0), v(0)))},
		{ty("fun", v(1<<40), v(1)), []int{1 << 40, 1}, ty("fun", v(0), v(1))},
	} {
		wantVars(t, x.given, x.vars...)
		wantNorm(t, x.given, x.norm)
		wantExpected(t, x.given)
	}
}

// P8.1
func TestTypesWithoutVars(t *testing.T) {
	for _, f := range forms {
		if f.op == "var" {
			continue
		}
		for _, x := range within(f.sample()) {
			wantVars(t, x)
			wantNorm(t, x, x)
		}
	}
}

// leftward and rightward are funs whose vars, from the left, have those
// numbers: they go down by their first kids, and by their last.
func leftward(numbers []int) api.Type {
	x := ty("unit")
	for _, n := range numbers {
		x = ty("fun", x, variable(n))
	}
	return x
}

func rightward(numbers []int) api.Type {
	x := ty("unit")
	for _, n := range slices.Backward(numbers) {
		x = ty("fun", variable(n), x)
	}
	return x
}

// P8.1: one var many times, and several in any order.
func TestVarsInAnyOrder(t *testing.T) {
	r := rand.New(rand.NewSource(8))
	for n := 1; n <= 60; n++ {
		first := r.Perm(n)
		for _, again := range [][]int{nil, first, r.Perm(n), slices.Repeat(first[:1], 50), slices.Repeat(first[n-1:], 50)} {
			numbers := slices.Concat(first, again)
			var places []int
			for _, v := range numbers {
				places = append(places, slices.Index(first, v))
			}
			for _, grow := range []func([]int) api.Type{leftward, rightward} {
				wantVars(t, grow(numbers), first...)
				wantNorm(t, grow(numbers), grow(places))
			}
		}
	}
}

// P8.1, W1
func TestManyVars(t *testing.T) {
	n := 1<<16 + 1
	x := comb(n, 1, variable(0))
	var want []int
	for i := n/2 - 1; i >= 0; i-- {
		want = append(want, i)
	}
	wantVars(t, x, want...)
	wantVars(t, bush(200000), 7)
	wantVars(t, doubled(18), 3)
	wantVars(t, row(1<<16, variable(4)), 4)
	norm := Norm(x)
	for i := range n / 2 {
		if norm.Kids[0].N != i {
			t.Fatalf("var %d is numbered %d", i, norm.Kids[0].N)
		}
		norm = norm.Kids[1]
	}
	if norm.N != n/2-1 {
		t.Errorf("the last var is numbered %d", norm.N)
	}
	wantNorm(t, row(1<<16, variable(4)), row(1<<16, variable(0)))
}

// P8.1
func TestSent(t *testing.T) {
	for _, f := range forms {
		for _, x := range within(f.sample()) {
			if got, want := Sent(x), !strings.ContainsAny(expectedShow(x), "'>"); got != want {
				t.Errorf("Sent(%s): %v, want %v", expectedShow(x), got, want)
			}
		}
	}
	v, fun := variable(0), ty("fun", ty("int"), ty("int"))
	for _, n := range []int{1, 2, 10, 1999, 2000, 1 << 16} {
		if !Sent(row(n, ty("cell"))) || Sent(row(n, v)) || Sent(row(n, fun)) {
			t.Errorf("Sent of %d in a row", n)
		}
	}
	for deep := range 12 {
		for place := range 1 << deep {
			if !Sent(placed(deep, place, ty("string"))) || Sent(placed(deep, place, v)) || Sent(placed(deep, place, fun)) {
				t.Errorf("Sent with a leaf at %d, %d deep", place, deep)
			}
		}
	}
}

// placed is pairs that deep, all of whose leaves but one are units.
func placed(deep, place int, leaf api.Type) api.Type {
	for i := range deep {
		kids := []api.Type{ty("unit"), ty("unit")}
		kids[place>>i&1] = leaf
		leaf = ty("pair", kids...)
	}
	return leaf
}

// P8.2
func TestShowOfEachOp(t *testing.T) {
	a, b := ty("int"), ty("cell")
	for want, x := range map[string]api.Type{
		"int": a, "bool": ty("bool"), "unit": ty("unit"), "string": ty("string"), "cell": b, "'0": variable(0),
		"int list": ty("list", a), "cell ref": ty("ref", b), "(int * cell)": ty("pair", a, b), "(cell -> int)": ty("fun", b, a),
		"(int * '0) list":                ty("list", ty("pair", a, variable(0))),
		"cell list ref":                  ty("ref", ty("list", b)),
		"('0 -> ('1 -> '0))":             ty("fun", variable(0), ty("fun", variable(1), variable(0))),
		"(('0 -> '1) -> '0)":             ty("fun", ty("fun", variable(0), variable(1)), variable(0)),
		"(int ref * (int -> cell) list)": ty("pair", ty("ref", a), ty("list", ty("fun", a, b))),
	} {
		wantShow(t, x, want)
	}
}

// P8.2: each Op as each kid of each Op, two deep.
func TestShowOfEachOpInEachOp(t *testing.T) {
	seen := map[string]bool{}
	for _, outer := range forms {
		for i := range outer.kids {
			for _, middle := range forms {
				for j := range max(middle.kids, 1) {
					for _, inner := range forms {
						x, y := outer.sample(), middle.sample()
						if middle.kids > 0 {
							y.Kids[j] = inner.sample()
						}
						x.Kids[i] = y
						wantExpected(t, x)
						seen[Show(x)] = true
					}
				}
			}
		}
	}
	if len(seen) < 200 {
		t.Errorf("%d texts", len(seen))
	}
}

// P8.2: vars of one digit and of many.
func TestShowOfVars(t *testing.T) {
	for n := 1; n > 0 && n < math.MaxInt/10; n *= 10 {
		for _, v := range []int{n - 1, n, n + 1, n * 9} {
			wantShow(t, variable(v), "'"+fmt.Sprint(v))
			wantShow(t, ty("fun", ty("list", variable(v)), variable(v)), fmt.Sprintf("('%d list -> '%d)", v, v))
		}
	}
	for v := range 1200 {
		wantShow(t, variable(v), fmt.Sprintf("'%d", v))
	}
	wantShow(t, variable(math.MaxInt), "'9223372036854775807")
}

// P8.2, W1: types of any size have a text.
func TestShowOfMany(t *testing.T) {
	wantShow(t, row(2001, ty("int")), "int"+strings.Repeat(" list ref", 1000))
	wantExpected(t, comb(1999, 0, ty("bool")))
	wantExpected(t, comb(3999, 1, ty("bool")))
	x := ty("bool")
	for range 1 << 15 {
		x = ty("fun", ty("int"), x)
	}
	wantShow(t, x, strings.Repeat("(int -> ", 1<<15)+"bool"+strings.Repeat(")", 1<<15))
	if got := len(Show(row(1<<16, ty("unit")))); got != 4+5*(1<<15)+4*(1<<15-1) {
		t.Errorf("the text of 2^16 in a row has %d bytes", got)
	}
}

// small is all types of at most that many nodes: of small[i] each has i + 1.
func small(most int) [][]api.Type {
	sizes := [][]api.Type{{variable(0), variable(1), variable(10)}}
	for _, f := range forms[:leaves-1] {
		sizes[0] = append(sizes[0], f.sample())
	}
	for n := 2; n <= most; n++ {
		var l []api.Type
		for _, k := range sizes[n-2] {
			l = append(l, ty("list", k), ty("ref", k))
		}
		for first := 1; first <= n-2; first++ {
			for _, a := range sizes[first-1] {
				for _, b := range sizes[n-2-first] {
					l = append(l, ty("pair", a, b), ty("fun", a, b))
				}
			}
		}
		sizes = append(sizes, l)
	}
	return sizes
}

// P8.1 to P8.3: no two of all small types have one text, and Norm of two is
// the same just if their vars come alike.
func TestEverySmallType(t *testing.T) {
	seen := map[string]bool{}
	norms := map[string]api.Type{}
	for _, l := range small(5) {
		for _, x := range l {
			wantExpected(t, x)
			s := Show(x)
			if seen[s] {
				t.Fatalf("%q is the text of two", s)
			}
			seen[s] = true
			if other, ok := norms[expectedNorm(s)]; ok {
				wantSame(t, Norm(x), other, true)
			}
			norms[expectedNorm(s)] = Norm(x)
		}
	}
}

// W1: whatever the types have, no call panics, and what the document says
// without asking whether it is one holds.
func TestTypesThatAreNone(t *testing.T) {
	for _, op := range []string{"", "nope", "int", "cell", "list", "ref", "pair", "fun", "var"} {
		for kids := range 5 {
			for _, kid := range append(nones(), variable(6), ty("nope", variable(6))) {
				x := api.Type{Op: op, N: 2, Kids: slices.Repeat([]api.Type{kid}, kids)}
				was := copied(x)
				Is(x)
				Show(x)
				wantSame(t, x, was, true)
				vars, norm := allVars(x), copied(x)
				each(&norm, func(k *api.Type) {
					if k.Op == "var" {
						k.N = slices.Index(vars, k.N)
					}
				})
				wantVars(t, x, vars...)
				wantNorm(t, x, norm)
				fun := false
				each(&x, func(k *api.Type) { fun = fun || k.Op == "fun" })
				if got, want := Sent(x), !fun && len(vars) == 0; got != want {
					t.Errorf("Sent(%v): %v, want %v", x, got, want)
				}
			}
		}
	}
	wantShow(t, variable(-1), "'-1")
	wantShow(t, ty("nope", ty("int")), "")
	wantShow(t, ty("list"), " list")
	wantShow(t, ty("pair", ty("int")), "(int * )")
	wantShow(t, ty("int", ty("int")), "int")
	wantShow(t, api.Type{}, "")
}

// allVars is the vars of x, whatever it is.
func allVars(x api.Type) (l []int) {
	each(&x, func(k *api.Type) {
		if k.Op == "var" && !slices.Contains(l, k.N) {
			l = append(l, k.N)
		}
	})
	return l
}

// spare is t with room behind the end of each of its lists, in which other
// types stand.
func spare(t api.Type) api.Type {
	kids := make([]api.Type, 0, len(t.Kids)+2)
	for _, k := range t.Kids {
		kids = append(kids, spare(k))
	}
	t.Kids = append(kids, variable(81), variable(82))[:len(kids)]
	return t
}

// unchanged tells whether t is what spare made of was, spare room too.
func unchanged(t, was api.Type) bool {
	if t.Op != was.Op || t.N != was.N || len(t.Kids) != len(was.Kids) || cap(t.Kids) != len(t.Kids)+2 {
		return false
	}
	behind := t.Kids[len(t.Kids):cap(t.Kids)]
	return Same(behind[0], variable(81)) && Same(behind[1], variable(82)) && slices.EqualFunc(t.Kids, was.Kids, unchanged)
}

// spoil changes all that t has, the spare room of its lists too.
func spoil(t api.Type) {
	l := t.Kids[:cap(t.Kids)]
	for i := range l {
		spoil(l[i])
		l[i] = api.Type{Op: "spoiled", N: -5}
	}
}

// samples is types, and what is none, of many kinds.
func samples() []api.Type {
	r := rand.New(rand.NewSource(88))
	l := append([]api.Type{large(), row(2000, variable(1)), row(2001, variable(1)), bush(2000), bush(3000), comb(2001, 0, variable(1)), comb(2001, 1, variable(1)),
		ty("nope", large(), large()), doubled(8), ty("var", large())}, nones()...)
	for _, f := range forms {
		l = append(l, f.sample())
	}
	for range 300 {
		l = append(l, randomType(r, 1+r.Intn(60)))
	}
	return l
}

// P8.3, W6
func TestNothingIsChanged(t *testing.T) {
	calls := []struct {
		name string
		call func(a, b api.Type)
	}{
		{"Is", func(a, b api.Type) { Is(a); Is(b) }},
		{"Same", func(a, b api.Type) { Same(a, b); Same(a, a) }},
		{"Vars", func(a, b api.Type) { filled(Vars(a)); filled(Vars(b)) }},
		{"Show", func(a, b api.Type) { Show(a); Show(b) }},
		{"Norm", func(a, b api.Type) { spoil(Norm(a)); spoil(Norm(b)) }},
		{"Sent", func(a, b api.Type) { Sent(a); Sent(b) }},
	}
	for _, x := range samples() {
		was := copied(x)
		a, b := spare(x), spare(x)
		for _, c := range calls {
			if c.call(a, b); !unchanged(a, was) || !unchanged(b, was) {
				t.Fatalf("%s changes %s", c.name, few(was))
			}
		}
	}
}

// filled changes all of l, its spare room too.
func filled(l []int) {
	l = l[:cap(l)]
	for i := range l {
		l[i] = -7
	}
}

// places is where each element of t's lists lies, spare room too.
func places(t api.Type, add func(*api.Type)) {
	l := t.Kids[:cap(t.Kids)]
	for i := range l {
		add(&l[i])
		places(l[i], add)
	}
}

// P8.3, W6: no two lists of what Norm answers share memory, also where those
// handed in do, and none with another answer.
func TestNormIsNewMemory(t *testing.T) {
	shared := ty("pair", variable(5), variable(4))
	for _, x := range append(samples(), ty("pair", shared, ty("fun", shared, shared)), doubled(10)) {
		seen := map[*api.Type]bool{}
		places(x, func(p *api.Type) { seen[p] = true })
		for range 2 {
			places(Norm(x), func(p *api.Type) {
				if seen[p] {
					t.Fatalf("Norm(%s) shares memory", few(x))
				}
				seen[p] = true
			})
		}
	}
}

// W2, W6, W7: an answer stays what it is, whatever happens to what was handed
// in and to other answers.
func TestAnswersStay(t *testing.T) {
	for _, x := range samples() {
		given, was := copied(x), copied(x)
		vars, norm := Vars(given), Norm(given)
		wantedVars, wantedNorm := slices.Clone(vars), copied(norm)
		filled(Vars(given))
		spoil(Norm(given))
		wantVars(t, given, wantedVars...)
		wantSame(t, Norm(given), wantedNorm, true)
		spoil(given)
		Vars(large())
		Norm(large())
		if !slices.Equal(vars, wantedVars) {
			t.Errorf("Vars(%s) does not stay", few(was))
		}
		wantSame(t, norm, wantedNorm, true)
	}
}

// randomType is one of at most room nodes.
func randomType(r *rand.Rand, room int) api.Type {
	f := forms[leaves+r.Intn(len(forms)-leaves)]
	if room <= f.kids || r.Intn(10) == 0 {
		if r.Intn(2) == 0 {
			return variable(r.Intn(1 << r.Intn(8)))
		}
		return forms[r.Intn(leaves-1)].sample()
	}
	room--
	if f.kids == 1 {
		return ty(f.op, randomType(r, room))
	}
	left := 1 + r.Intn(room-1)
	return ty(f.op, randomType(r, left), randomType(r, room-left))
}

// P8.1 to P8.3
func TestRandomTypes(t *testing.T) {
	r := rand.New(rand.NewSource(888))
	for range 5000 {
		wantExpected(t, randomType(r, 1+r.Intn(80)))
	}
	for range 50 {
		wantExpected(t, randomType(r, 4000))
	}
}

// read is the type that bytes tell, and the bytes behind it: which Op, a byte
// that turns one thing of it or numbers a var, then its kids.
func read(b []byte, deep int) (api.Type, []byte) {
	if len(b) < 2 || deep == 0 {
		return ty("int"), nil
	}
	f, i := forms[int(b[0])%len(forms)], int(b[1])
	x := f.sample()
	if f.op == "var" {
		x.N = i
	}
	b = b[2:]
	for k := range x.Kids {
		x.Kids[k], b = read(b, deep-1)
	}
	if i >= 256-len(turns()) {
		turns()[255-i](&x)
	}
	return x, b
}

// Whatever the types: what the document asks of them.
func FuzzTyp(f *testing.F) {
	for _, s := range []string{"", "\x06.\x08.\x00.\x05\x03", "\x09.\x05\x09\x09.\x05\x02\x05\x09", "\x08.\x07.\x04.\x06\xff\x01.", "\x05\xfc", "\x09\xf8\x00.\x01."} {
		f.Add([]byte(s))
	}
	f.Fuzz(func(t *testing.T, b []byte) {
		x, _ := read(b, 1000)
		if expectedIs(x) {
			wantExpected(t, x)
			return
		}
		wantIs(t, x, false)
		wantVars(t, x, allVars(x)...)
		wantSame(t, Norm(Norm(x)), Norm(x), true)
		wantSame(t, x, copied(x), true)
		Show(x)
		Sent(x)
	})
}
