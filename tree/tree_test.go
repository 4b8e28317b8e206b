package tree

import (
	"fmt"
	"math"
	"math/rand"
	"regexp"
	"slices"
	"strconv"
	"strings"
	"testing"

	"emissary/api"
)

// own is what an Op has, as the document lists it.
type own struct {
	op        string
	name, arg bool
	kids      int
}

// ops is all of them: those of the first row have N, a string or nothing.
var ops = []own{
	{op: "int"}, {op: "bool"}, {op: "unit"}, {op: "nil"}, {op: "str"},
	{op: "var", name: true},
	{op: "fun", name: true, kids: 1},
	{op: "let", name: true, kids: 2},
	{op: "rec", name: true, arg: true, kids: 2},
	{op: "if", kids: 3},
	{op: "match", name: true, arg: true, kids: 3},
	{op: "try", name: true, kids: 2},
	{op: "seq", kids: 2}, {op: "set", kids: 2}, {op: "eq", kids: 2}, {op: "less", kids: 2}, {op: "cons", kids: 2}, {op: "add", kids: 2},
	{op: "sub", kids: 2}, {op: "cat", kids: 2}, {op: "mul", kids: 2}, {op: "app", kids: 2}, {op: "pair", kids: 2}, {op: "link", kids: 2},
	{op: "raise", kids: 1}, {op: "get", kids: 1}, {op: "fst", kids: 1}, {op: "snd", kids: 1}, {op: "ref", kids: 1},
	{op: "cell", kids: 1}, {op: "tag", kids: 1}, {op: "links", kids: 1}, {op: "size", kids: 1}, {op: "print", kids: 1},
}

const words = " let rec in fun if then else match with try raise true false fst snd ref cell tag links link size print "

var (
	nameLike = regexp.MustCompile(`\A[a-z][a-z0-9_']{0,11}\z`)
	textLike = regexp.MustCompile(`\A[ !#-~]{0,40}\z`)
)

// mayBeName is what the document says of a name, by the library.
func mayBeName(s string) bool { return nameLike.MatchString(s) && !strings.Contains(words, " "+s+" ") }

func node(op string, kids ...api.Node) api.Node { return api.Node{Op: op, Kids: kids} }

func named(op, name, arg string, kids ...api.Node) api.Node {
	return api.Node{Op: op, Name: name, Arg: arg, Kids: kids}
}

func number(n int64) api.Node       { return api.Node{Op: "int", N: n} }
func boolean(n int64) api.Node      { return api.Node{Op: "bool", N: n} }
func text(s string) api.Node        { return api.Node{Op: "str", Name: s} }
func variable(name string) api.Node { return api.Node{Op: "var", Name: name} }

// sample is a node of the Op with just what it has; its kids are numbers.
func sample(o own) api.Node {
	n := api.Node{Op: o.op}
	if o.name {
		n.Name = "x"
	}
	if o.arg {
		n.Arg = "y"
	}
	for i := range o.kids {
		n.Kids = append(n.Kids, number(int64(i)))
	}
	return n
}

// expectedIs is what the document asks of n, MaxNodes aside.
func expectedIs(n api.Node) bool {
	i := slices.IndexFunc(ops, func(o own) bool { return o.op == n.Op })
	if i < 0 || len(n.Kids) != ops[i].kids {
		return false
	}
	o := ops[i]
	nameFits := n.Name == ""
	if o.name {
		nameFits = mayBeName(n.Name)
	} else if o.op == "str" {
		nameFits = textLike.MatchString(n.Name)
	}
	argFits := n.Arg == ""
	if o.arg {
		argFits = mayBeName(n.Arg)
	}
	numberFits := n.N == 0 || n.N == 1 && o.op == "bool" || n.N > 0 && n.N < 1000000000000000000 && o.op == "int"
	return nameFits && argFits && numberFits && !slices.ContainsFunc(n.Kids, func(k api.Node) bool { return !expectedIs(k) })
}

// expectedFree is the free names of n as sets, from the leaves up.
func expectedFree(n api.Node) map[string]bool {
	all := map[string]bool{}
	if n.Op == "var" {
		all[n.Name] = true
	}
	for i, k := range n.Kids {
		inner := expectedFree(k)
		switch n.Op + strconv.Itoa(i) {
		case "fun0", "let1", "try1", "rec1":
			delete(inner, n.Name)
		case "rec0", "match2":
			delete(inner, n.Name)
			delete(inner, n.Arg)
		}
		for name := range inner {
			all[name] = true
		}
	}
	return all
}

// expectedValue is what the document asks of n, a node of two kids if it is a
// pair or a cons.
func expectedValue(n api.Node) bool {
	if n.Op == "pair" || n.Op == "cons" {
		return expectedValue(n.Kids[0]) && expectedValue(n.Kids[1])
	}
	return strings.Contains(" int bool unit nil str var fun ", " "+n.Op+" ")
}

// few is what a message tells of n.
func few(n api.Node) string {
	s := fmt.Sprint(n)
	return s[:min(len(s), 200)]
}

// within is n at the top, and at each place further down.
func within(n api.Node) []api.Node {
	one := number(7)
	all := []api.Node{n}
	for _, o := range ops {
		for i := range o.kids {
			outer := sample(o)
			outer.Kids[i] = n
			all = append(all, outer, node("pair", one, node("fst", outer)), node("if", outer, one, one))
		}
	}
	return all
}

func wantIs(t *testing.T, n api.Node, want bool) {
	t.Helper()
	for _, x := range within(n) {
		if got := Is(x); got != want {
			t.Errorf("Is(%s): %v, want %v", few(x), got, want)
		}
	}
}

func wantFree(t *testing.T, n api.Node, want ...string) {
	t.Helper()
	if got := Free(n); !slices.Equal(got, want) {
		t.Errorf("Free(%s): %.300q, want %.300q", few(n), got, want)
	}
}

// row is n nodes, each the only kid of the one above it.
func row(n int) api.Node {
	x := number(0)
	for range n - 1 {
		x = node("raise", x)
	}
	return x
}

// bush is n nodes, half of them beside the other half.
func bush(n int) api.Node {
	switch n {
	case 1:
		return variable("x")
	case 2:
		return node("ref", number(1))
	}
	left := (n - 1) / 2
	return node("seq", bush(left), bush(n-1-left))
}

// comb is n nodes, an odd number, that go down by their last kids.
func comb(n int) api.Node {
	x := node("nil")
	for range (n - 1) / 2 {
		x = node("cons", number(1), x)
	}
	return x
}

// doubled is 2^n - 1 nodes, of which all of a depth are one in memory.
func doubled(n int) api.Node {
	x := number(1)
	for range n - 1 {
		x = node("pair", x, x)
	}
	return x
}

// copied is n in memory of its own.
func copied(n api.Node) api.Node {
	kids := n.Kids
	n.Kids = nil
	for _, k := range kids {
		n.Kids = append(n.Kids, copied(k))
	}
	return n
}

// each calls f with each node of n.
func each(n *api.Node, f func(*api.Node)) {
	f(n)
	for i := range n.Kids {
		each(&n.Kids[i], f)
	}
}

// P5.1
func TestEachOpWithWhatItHas(t *testing.T) {
	if len(ops) != 34 {
		t.Fatalf("%d Ops", len(ops))
	}
	for _, o := range ops {
		wantIs(t, sample(o), true)
	}
}

// P5.1
func TestEachOpWithOneThingMoreOrLess(t *testing.T) {
	for _, o := range ops {
		more := sample(o)
		more.Kids = append(more.Kids, number(9))
		wantIs(t, more, false)
		if o.kids > 0 {
			less := sample(o)
			less.Kids = less.Kids[1:]
			wantIs(t, less, false)
			less.Kids = nil
			wantIs(t, less, false)
		}
		turned := sample(o)
		if turned.Name = ""; o.op != "str" {
			if !o.name {
				turned.Name = "x"
			}
			wantIs(t, turned, false)
		}
		turned = sample(o)
		if turned.Arg = ""; !o.arg {
			turned.Arg = "y"
		}
		wantIs(t, turned, false)
		if o.op != "int" && o.op != "bool" {
			for _, v := range []int64{1, -1, 2, math.MaxInt64, math.MinInt64} {
				numbered := sample(o)
				numbered.N = v
				wantIs(t, numbered, false)
			}
		}
	}
}

// P5.1: each Op with each number of kids.
func TestNumbersOfKids(t *testing.T) {
	for _, o := range ops {
		for kids := range 6 {
			n := sample(o)
			n.Kids = slices.Repeat([]api.Node{number(3)}, kids)
			if got := Is(n); got != (kids == o.kids) {
				t.Errorf("Is of %s with %d kids: %v", o.op, kids, got)
			}
		}
	}
}

// P5.1
func TestOpsThatAreNone(t *testing.T) {
	for _, op := range []string{
		"", " ", "nope", "Int", "INT", "int ", " int", "ints", "in", "string", "true", "false", "then", "else", "with",
		"deref", "div", "+", "::", "()", "[]", "ifs", "le", "lets", "\x00", "var\x00", "\xff", "é", strings.Repeat("a", 5000),
	} {
		for kids := range 4 {
			n := node(op, slices.Repeat([]api.Node{number(1)}, kids)...)
			wantIs(t, n, false)
			n.Name = "x"
			wantIs(t, n, false)
			n.Arg = "y"
			wantIs(t, n, false)
		}
	}
	if Is(api.Node{}) {
		t.Error("an empty node is one")
	}
}

// wantNameFits holds a name against want in all that have one: as a Name, and
// as an Arg.
func wantNameFits(t *testing.T, name string, want bool) {
	t.Helper()
	for _, o := range ops {
		if n := sample(o); o.name {
			n.Name = name
			if Is(n) != want || Is(node("raise", n)) != want {
				t.Errorf("Is of %s with Name %.40q: %v", o.op, name, !want)
			}
		}
		if n := sample(o); o.arg {
			n.Arg = name
			if Is(n) != want || Is(node("raise", n)) != want {
				t.Errorf("Is of %s with Arg %.40q: %v", o.op, name, !want)
			}
		}
	}
}

// P5.1
func TestNamesThatMayBe(t *testing.T) {
	for c := 'a'; c <= 'z'; c++ {
		wantNameFits(t, string(c), true)
	}
	for n := 1; n <= api.MaxName; n++ {
		wantNameFits(t, strings.Repeat("z", n), true)
	}
	for _, s := range []string{"a_1'", "x'", "x__", "a0123456789", "abcdefghijk'", "letrec", "le", "lett", "in'", "in1", "int", "nil", "var", "str", "unit", "set", "get"} {
		wantNameFits(t, s, true)
	}
}

// P5.1
func TestNamesThatMayNotBe(t *testing.T) {
	for _, s := range strings.Fields(words) {
		wantNameFits(t, s, false)
	}
	for _, s := range []string{
		"", " ", " x", "x ", "x y", "x\n", "\tx", "\nx", "x\t", "X", "xY", "_x", "'x", "_", "'", "1", "1x", "0", "x.y", "x-y", "x+", "(x)", "x:=", "::", "(",
		`"x"`, `"x`, `x"`, `"`, "x\x00", "\x00", "\xff", "é", "xé", "x?", "let x", "x in", "abcdefghijklm", strings.Repeat("a", 13),
		strings.Repeat("a", 2000), strings.Repeat("a", 2001), strings.Repeat("a ", 100000),
	} {
		wantNameFits(t, s, false)
	}
}

// P5.1: every byte alone, behind a name and ahead of one.
func TestEveryByteInAName(t *testing.T) {
	for c := range 256 {
		b := string([]byte{byte(c)})
		for _, s := range []string{b, "a" + b, b + "a", "a" + b + "a"} {
			wantNameFits(t, s, mayBeName(s))
		}
	}
}

// P5.1
func TestNumbers(t *testing.T) {
	for _, v := range []int64{0, 1, 2, 9, 10, 1 << 31, 1 << 32, 1 << 53, 100000000000000000, 999999999999999998, 999999999999999999} {
		wantIs(t, number(v), true)
	}
	for _, v := range []int64{-1, -2, -999999999999999999, 1000000000000000000, 1000000000000000001, math.MaxInt64, math.MinInt64} {
		wantIs(t, number(v), false)
		wantIs(t, boolean(v), false)
	}
	wantIs(t, boolean(0), true)
	wantIs(t, boolean(1), true)
	wantIs(t, boolean(2), false)
	wantIs(t, boolean(256), false)
}

// P5.1
func TestStringsThatMayBe(t *testing.T) {
	for _, s := range []string{"", " ", "  ", "a b~", "~", "let", "X", "12", "\\", "\\n", "'", "(:=)", "?@{}`", strings.Repeat("x", api.MaxStr), strings.Repeat(" ", api.MaxStr)} {
		wantIs(t, text(s), true)
	}
}

// P5.1
func TestStringsThatMayNotBe(t *testing.T) {
	for _, s := range []string{
		`"`, `""`, `a"b`, `"a`, `a"`, `" "`, `a" "b`, `"x"`, `" `, ` "`, `a"b"c`, `" x "`, `"+"`, "\n", "a\n", "\t", "\r", "\x00", "\x1f", "\x7f", "\x80", "\xff", "é",
		strings.Repeat("x", api.MaxStr+1), strings.Repeat("x", api.MaxStr+2), strings.Repeat("x", 1998), strings.Repeat("x", 1999), strings.Repeat(" ", 100000),
	} {
		wantIs(t, text(s), false)
	}
	for c := range 256 {
		b := string([]byte{byte(c)})
		for _, s := range []string{b, "a" + b, b + "a", "a" + b + "a", strings.Repeat(b, 40), strings.Repeat(b, 41)} {
			if got := Is(text(s)); got != textLike.MatchString(s) {
				t.Errorf("Is of the string %q: %v", s, got)
			}
		}
	}
}

// P5.1
func TestIsLeavesAtAside(t *testing.T) {
	for _, at := range []int{1, -1, 5, 2000, 2001, math.MaxInt, math.MinInt} {
		for _, o := range ops {
			n := sample(o)
			each(&n, func(x *api.Node) { x.At = at })
			wantIs(t, n, true)
		}
	}
}

// P5.1, W5
func TestNoKidsNilOrEmpty(t *testing.T) {
	for _, o := range ops[:6] {
		a, b := sample(o), sample(o)
		a.Kids, b.Kids = nil, []api.Node{}
		wantIs(t, a, true)
		wantIs(t, b, true)
		if !Same(a, b) || !Same(b, a) || !Same(node("raise", a), node("raise", b)) {
			t.Errorf("Same of %s: nil and empty kids differ", o.op)
		}
	}
}

// P5.1
func TestSizeOfFew(t *testing.T) {
	if got := Size(api.Node{}); got != 1 {
		t.Errorf("Size of an empty node: %d", got)
	}
	for _, o := range ops {
		if got := Size(sample(o)); got != 1+o.kids {
			t.Errorf("Size of %s: %d, want %d", o.op, got, 1+o.kids)
		}
	}
	for n := 1; n <= 100; n++ {
		if row, bush := Size(row(n)), Size(bush(n)); row != n || bush != n {
			t.Errorf("Size: %d in a row, %d side by side, want %d", row, bush, n)
		}
	}
	for n := range 8 {
		if got := Size(node("nope", slices.Repeat([]api.Node{row(3)}, n)...)); got != 1+3*n {
			t.Errorf("Size of %d kids: %d, want %d", n, got, 1+3*n)
		}
	}
}

// P5.1
func TestMostNodes(t *testing.T) {
	for n := api.MaxNodes - 3; n <= api.MaxNodes+4; n++ {
		shapes := []api.Node{row(n), bush(n), node("seq", row(n/2), row(n-1-n/2)), node("add", row(n-2), number(1)), node("add", number(1), row(n-2))}
		if n%2 == 1 {
			shapes = append(shapes, comb(n))
		}
		for i, x := range shapes {
			if got, want := Size(x), min(n, api.MaxNodes+1); got != want {
				t.Errorf("shape %d of %d nodes: Size %d, want %d", i, n, got, want)
			}
			if got, want := Is(x), n <= api.MaxNodes; got != want {
				t.Errorf("shape %d of %d nodes: Is %v, want %v", i, n, got, want)
			}
		}
	}
	wide := node("nope", slices.Repeat([]api.Node{number(1)}, api.MaxNodes-1)...)
	if got := Size(wide); got != api.MaxNodes {
		t.Errorf("Size of MaxNodes - 1 kids: %d", got)
	}
	wide.Kids = append(wide.Kids, number(1))
	if got := Size(wide); got != api.MaxNodes+1 {
		t.Errorf("Size of MaxNodes kids: %d", got)
	}
}

// P5.1: the last of MaxNodes nodes has a fault.
func TestFaultInTheLastNode(t *testing.T) {
	for _, fault := range []api.Node{number(-1), text(`"`), variable("let"), node(""), {Op: "unit", Arg: "x"}} {
		x := fault
		for range api.MaxNodes - 1 {
			x = node("raise", x)
		}
		y := node("seq", bush(api.MaxNodes-2), fault)
		if Size(x) != api.MaxNodes || Size(y) != api.MaxNodes || Is(x) || Is(y) {
			t.Errorf("MaxNodes nodes with the fault %v are one", fault)
		}
	}
}

// P5.1, W1
func TestManyMoreNodes(t *testing.T) {
	wide := node("app", slices.Repeat([]api.Node{row(100)}, 100000)...)
	for i, x := range []api.Node{row(5000), row(1 << 16), bush(100000), comb(1<<16 + 1), wide, node("app", row(3000), row(3000)), doubled(12), doubled(60), doubled(1 << 15)} {
		if got := Size(x); got != api.MaxNodes+1 {
			t.Errorf("%d: Size %d, want %d", i, got, api.MaxNodes+1)
		}
		if Is(x) {
			t.Errorf("%d: so many nodes are one", i)
		}
	}
	if got := Size(doubled(10)); got != 1023 || !Is(doubled(10)) {
		t.Errorf("Size of 1023 nodes that share: %d", got)
	}
}

// large is all Ops in one node.
func large() api.Node {
	x := named("fun", "a", "", variable("b"))
	for i, o := range ops {
		n := sample(o)
		n.At = i
		if o.kids > 0 {
			n.Kids[o.kids-1] = x
			x = n
		} else {
			x = node("pair", n, x)
		}
	}
	return x
}

// P5.1
func TestSameButForAt(t *testing.T) {
	for _, n := range []api.Node{large(), row(50), bush(51), comb(51), {}, node("nope", number(-1)), named("int", "any", "\xff", large())} {
		moved := copied(n)
		at := 0
		each(&moved, func(x *api.Node) { at++; x.At = at * 1000003 })
		if !Same(n, n) || !Same(n, copied(n)) || !Same(n, moved) || !Same(moved, n) {
			t.Errorf("not the same but for At: %s", few(n))
		}
	}
}

// turns change one thing of a node.
func turns() []func(*api.Node) {
	return []func(*api.Node){
		func(n *api.Node) { n.Op += "s" },
		func(n *api.Node) { n.Op = "" },
		func(n *api.Node) { n.Name += "'" },
		func(n *api.Node) { n.Name += "\x00" },
		func(n *api.Node) { n.Arg += "'" },
		func(n *api.Node) { n.N++ },
		func(n *api.Node) { n.N = ^n.N },
		func(n *api.Node) { n.N += 1 << 32 },
		func(n *api.Node) { n.Kids = append(slices.Clone(n.Kids), number(1)) },
		func(n *api.Node) { n.Kids = append(slices.Clone(n.Kids), api.Node{}) },
		func(n *api.Node) { n.Name, n.Arg = n.Arg+"z", n.Name },
	}
}

// P5.1: one thing of one node differs, at any depth.
func TestSameOfTwoThatDiffer(t *testing.T) {
	for _, n := range []api.Node{large(), row(20), bush(21), comb(21), number(1)} {
		for which := range Size(n) {
			for i, turn := range turns() {
				other := copied(n)
				at := 0
				each(&other, func(x *api.Node) {
					if at++; at == which+1 {
						turn(x)
					}
				})
				if Same(n, other) || Same(other, n) {
					t.Errorf("turn %d of node %d is not seen: %s", i, which, few(n))
				}
			}
		}
	}
}

// P5.1
func TestSameKids(t *testing.T) {
	x, y := variable("x"), variable("y")
	for _, o := range ops {
		for _, p := range ops {
			if got := Same(sample(o), sample(p)); got != (o.op == p.op) {
				t.Errorf("Same of %s and %s: %v", o.op, p.op, got)
			}
		}
		for i := range o.kids {
			a, fewer := sample(o), sample(o)
			fewer.Kids = slices.Delete(fewer.Kids, i, i+1)
			if Same(a, fewer) || Same(fewer, a) {
				t.Errorf("Same of %s without kid %d", o.op, i)
			}
		}
	}
	if Same(node("app", x, y), node("app", y, x)) || Same(named("rec", "x", "y", x, y), named("rec", "y", "x", x, y)) {
		t.Error("Same of two whose parts change places")
	}
	if Same(node("seq", x, node("seq", y, x)), node("seq", node("seq", x, y), x)) {
		t.Error("Same of two that are nested otherwise")
	}
}

// P5.1, W1: far more nodes than MaxNodes are held against each other too.
func TestSameOfMany(t *testing.T) {
	for i, grow := range []func(int) api.Node{row, bush, comb} {
		n := 1<<16 - 1
		a, b, shorter := grow(n), grow(n), grow(n-2)
		if !Same(a, b) || Same(a, shorter) || Same(shorter, a) {
			t.Errorf("%d: Same of many nodes", i)
		}
		last := &b
		for len(last.Kids) > 0 {
			last = &last.Kids[len(last.Kids)-1]
		}
		last.N = 12
		if Same(a, b) || Same(b, a) {
			t.Errorf("%d: the last of many nodes differs", i)
		}
	}
}

// binder is in which kids an Op binds Name, and in which Arg.
type binder struct {
	op        string
	kids      int
	name, arg []int
}

// binders is each Op that binds.
var binders = []binder{
	{"fun", 1, []int{0}, nil},
	{"let", 2, []int{1}, nil},
	{"rec", 2, []int{0, 1}, []int{0}},
	{"match", 3, []int{2}, []int{2}},
	{"try", 2, []int{1}, nil},
}

// P5.2: in each kid of each Op that binds, the name, the Arg, and another name.
func TestFreeOfEachBinder(t *testing.T) {
	for _, b := range binders {
		for i := range b.kids {
			for _, name := range []string{"n", "a", "o"} {
				x := named(b.op, "n", "a", slices.Repeat([]api.Node{node("unit")}, b.kids)...)
				bound := name == "n" && slices.Contains(b.name, i) || name == "a" && slices.Contains(b.arg, i)
				for _, kid := range []api.Node{variable(name), node("app", node("get", variable(name)), number(1)), named("fun", "other", "", variable(name))} {
					x.Kids[i] = kid
					if bound {
						wantFree(t, x)
						wantFree(t, node("pair", variable(name), x), name)
						wantFree(t, node("pair", x, variable(name)), name)
					} else {
						wantFree(t, x, name)
					}
				}
			}
		}
	}
}

// P5.2
func TestFreeOfOpsThatBindNothing(t *testing.T) {
	for _, o := range ops {
		if o.op == "var" || slices.ContainsFunc(binders, func(b binder) bool { return b.op == o.op }) {
			continue
		}
		n := named(o.op, "x", "y")
		wantFree(t, n)
		var want []string
		for i := range o.kids {
			n.Kids = append(n.Kids, node("pair", variable("x"), variable("k"+strconv.Itoa(i))))
			want = append(want, "k"+strconv.Itoa(i))
		}
		if o.kids > 0 {
			wantFree(t, n, append(want, "x")...)
		}
	}
	wantFree(t, node("nope", variable("b"), variable("a")), "a", "b")
	wantFree(t, api.Node{})
}

// P5.2: what the inner one binds is bound by the outer one again once it has
// ended.
func TestFreeWhereBothBind(t *testing.T) {
	x, y, f := variable("x"), variable("y"), variable("f")
	wantFree(t, named("fun", "x", "", named("fun", "x", "", x)))
	wantFree(t, named("fun", "x", "", node("seq", named("fun", "x", "", x), x)))
	wantFree(t, node("seq", named("fun", "x", "", named("fun", "x", "", x)), x), "x")
	wantFree(t, named("let", "x", "", x, x), "x")
	wantFree(t, named("let", "x", "", named("let", "x", "", y, x), x), "y")
	wantFree(t, named("let", "x", "", y, named("let", "x", "", x, x)), "y")
	wantFree(t, named("let", "x", "", y, node("pair", named("let", "x", "", x, x), x)), "y")
	wantFree(t, named("fun", "x", "", named("let", "x", "", x, x)))
	wantFree(t, named("rec", "f", "x", node("app", f, x), node("app", f, x)), "x")
	wantFree(t, named("rec", "x", "x", x, x))
	wantFree(t, node("pair", named("rec", "x", "x", x, x), x), "x")
	wantFree(t, named("rec", "x", "x", y, node("pair", y, x)), "y")
	wantFree(t, named("rec", "f", "x", named("rec", "x", "f", node("app", f, x), node("app", x, f)), f))
	wantFree(t, named("match", "x", "x", f, y, x), "f", "y")
	wantFree(t, named("match", "x", "y", x, y, node("pair", x, y)), "x", "y")
	wantFree(t, named("match", "x", "x", f, x, named("fun", "x", "", x)), "f", "x")
	wantFree(t, named("try", "x", "", named("try", "x", "", f, x), x), "f")
	wantFree(t, named("try", "x", "", x, named("try", "y", "", x, y)), "x")
	wantFree(t, named("fun", "x", "", node("app", y, x)), "y")
	for _, a := range binders {
		for _, b := range binders {
			inner := named(b.op, "x", "y", slices.Repeat([]api.Node{node("pair", x, node("pair", y, f))}, b.kids)...)
			for i := range a.kids {
				outer := named(a.op, "y", "x", slices.Repeat([]api.Node{node("nil")}, a.kids)...)
				outer.Kids[i] = node("seq", inner, node("seq", y, x))
				wantExpectedFree(t, outer)
				outer.Name, outer.Arg = "x", "y"
				wantExpectedFree(t, outer)
			}
		}
	}
}

// wantExpectedFree holds Free against the sets.
func wantExpectedFree(t *testing.T, n api.Node) {
	t.Helper()
	var want []string
	for name := range expectedFree(n) {
		want = append(want, name)
	}
	slices.SortFunc(want, strings.Compare)
	wantFree(t, n, want...)
}

// P5.2: whatever the names are, each once, byte by byte rising.
func TestFreeNamesOfAnyBytes(t *testing.T) {
	names := []string{"", "\x00", "\n", " ", " x", "1", "A", "Z", "_", "a", "a\x00", "a ", "a'", "a1", "a_", "aa", "ab", "b", "let", "z", "z\xff", "~", "\x7f", "\x80", "é", "\xff", "\xff\xff", strings.Repeat("\xff", 3000)}
	sorted := slices.Clone(names)
	slices.SortFunc(sorted, strings.Compare)
	for _, order := range [][]string{names, reversed(names), slices.Concat(names, names, reversed(names))} {
		x := node("unit")
		for _, name := range order {
			x = node("seq", x, variable(name))
		}
		wantFree(t, x, sorted...)
	}
	for _, name := range names {
		x := variable(name)
		wantFree(t, x, name)
		wantFree(t, node("app", x, x), name)
		wantFree(t, named("fun", name, "", x))
		wantFree(t, named("fun", name+"x", "", x), name)
		wantFree(t, named("rec", "f", name, x, x), name)
		wantFree(t, named("match", "h", name, number(1), number(1), x))
		wantFree(t, named("match", name, "t", number(1), x, x), name)
	}
	for c := range 256 {
		b := string([]byte{byte(c)})
		wantFree(t, node("pair", variable(b+"x"), variable(b)), b, b+"x")
	}
}

func reversed(l []string) []string {
	l = slices.Clone(l)
	slices.Reverse(l)
	return l
}

// P5.2
func TestNoFreeNames(t *testing.T) {
	for _, o := range ops {
		if o.op != "var" {
			wantFree(t, sample(o))
		}
	}
	wantFree(t, text("x"))
	wantFree(t, row(100))
	wantFree(t, named("fun", "x", "", named("fun", "y", "", node("app", variable("x"), variable("y")))))
}

// P5.2, W1
func TestFreeOfMany(t *testing.T) {
	x := variable("last")
	var want []string
	for i := range 1 << 16 {
		name := "n" + strconv.Itoa(i)
		x = named("let", name, "", variable(name), x)
		want = append(want, name)
	}
	slices.SortFunc(want, strings.Compare)
	wantFree(t, x, append([]string{"last"}, want...)...)
	y := variable("x")
	for range 1 << 16 {
		y = named("fun", "x", "", y)
	}
	wantFree(t, y)
	wantFree(t, node("seq", y, variable("x")), "x")
	wantFree(t, bush(200000), "x")
}

// P5.2
func TestIsValueOfEachOp(t *testing.T) {
	values := strings.Fields("int bool unit nil str var fun pair cons")
	for _, o := range ops {
		if got := IsValue(sample(o)); got != slices.Contains(values, o.op) {
			t.Errorf("IsValue of %s: %v", o.op, got)
		}
	}
	for _, op := range []string{"", "nope", "Int", "int ", "true"} {
		if IsValue(node(op)) {
			t.Errorf("IsValue of %q", op)
		}
	}
	for _, o := range ops {
		if !IsValue(named("fun", "x", "", sample(o))) {
			t.Errorf("a fun of %s is no value", o.op)
		}
	}
}

// P5.2
func TestIsValueOfPairsAndCons(t *testing.T) {
	for _, outer := range []string{"pair", "cons"} {
		for _, a := range ops {
			for _, b := range ops {
				x, y := sample(a), sample(b)
				n := node(outer, x, y)
				want := expectedValue(x) && expectedValue(y)
				if got := IsValue(n); got != want {
					t.Errorf("IsValue of %s of %s, %s: %v", outer, a.op, b.op, got)
				}
				for _, op := range []string{"pair", "cons"} {
					if IsValue(node(op, number(1), n)) != want || IsValue(node(op, n, number(1))) != want {
						t.Errorf("IsValue of %s of %s of %s, %s: %v", op, outer, a.op, b.op, !want)
					}
				}
			}
		}
	}
	app := node("app", variable("f"), variable("x"))
	deep, wrong := number(1), app
	for i := range 1 << 15 {
		op := []string{"pair", "cons"}[i%2]
		deep, wrong = node(op, deep, node("nil")), node(op, node("nil"), wrong)
	}
	if !IsValue(deep) || IsValue(wrong) || !IsValue(comb(1<<16+1)) {
		t.Error("IsValue of many nested ones")
	}
}

// W1: whatever the nodes have, no call panics.
func TestNodesThatLackParts(t *testing.T) {
	for _, o := range append(slices.Clone(ops), own{}, own{op: "nope"}) {
		for kids := range 6 {
			for _, kid := range []api.Node{{}, variable("x"), node("pair"), node("cons", number(1)), node("fun"), node("rec"), node("match")} {
				n := named(o.op, "n", "a", slices.Repeat([]api.Node{kid}, kids)...)
				Is(n)
				Free(n)
				IsValue(n)
				if !Same(n, copied(n)) || Size(n) != 1+kids*Size(kid) {
					t.Errorf("Same, Size of %v", n)
				}
			}
		}
	}
	for _, n := range []api.Node{node("pair"), node("cons", number(1)), node("pair", number(1), number(1), number(1))} {
		if IsValue(n) {
			t.Errorf("IsValue of %s with %d kids", n.Op, len(n.Kids))
		}
	}
}

// randomNode is nodes that mostly have what their Ops have.
func randomNode(r *rand.Rand, depth int) api.Node {
	names := []string{"x", "y", "f", "a'"}
	o := ops[r.Intn(len(ops))]
	if depth == 0 {
		o = ops[r.Intn(6)]
	}
	n := sample(o)
	n.At = r.Intn(100)
	if o.name {
		n.Name = names[r.Intn(len(names))]
	}
	if o.arg {
		n.Arg = names[r.Intn(len(names))]
	}
	for i := range n.Kids {
		n.Kids[i] = randomNode(r, depth-1)
	}
	if r.Intn(300) == 0 {
		turns()[r.Intn(len(turns()))](&n)
	}
	return n
}

// spare is n with room behind the end of each of its lists of kids, in which
// another node stands.
func spare(n api.Node) api.Node {
	kids := make([]api.Node, len(n.Kids)+2)
	for i, k := range n.Kids {
		kids[i] = spare(k)
	}
	kids[len(n.Kids)], kids[len(n.Kids)+1] = variable("behind"), variable("the end")
	n.Kids = kids[:len(n.Kids)]
	return n
}

// unchanged tells whether n, At and spare room too, is what spare made of was.
func unchanged(n, was api.Node) bool {
	if n.At != was.At || n.Op != was.Op || n.Name != was.Name || n.Arg != was.Arg || n.N != was.N || len(n.Kids) != len(was.Kids) {
		return false
	}
	behind := n.Kids[len(n.Kids):cap(n.Kids)]
	if len(behind) < 2 || behind[0].Name != "behind" || behind[1].Name != "the end" {
		return false
	}
	for i := range n.Kids {
		if !unchanged(n.Kids[i], was.Kids[i]) {
			return false
		}
	}
	return true
}

// P5.3, W6
func TestNothingIsChanged(t *testing.T) {
	r := rand.New(rand.NewSource(5))
	nodes := []api.Node{{}, large(), row(2000), row(2001), bush(2000), bush(3000), comb(2001), node("nope", large(), large()), number(-1), named("rec", "x", "x", variable("x"), variable("y"))}
	for _, o := range ops {
		nodes = append(nodes, sample(o))
	}
	for range 300 {
		nodes = append(nodes, randomNode(r, 6))
	}
	calls := []struct {
		name string
		call func(a, b api.Node)
	}{
		{"Is", func(a, b api.Node) { Is(a); Is(b) }},
		{"Same", func(a, b api.Node) { Same(a, b); Same(a, a) }},
		{"Size", func(a, b api.Node) { Size(a); Size(b) }},
		{"Free", func(a, b api.Node) { filled(Free(a)); filled(Free(b)) }},
		{"IsValue", func(a, b api.Node) { IsValue(a); IsValue(b) }},
	}
	for _, n := range nodes {
		was := copied(n)
		a, b := spare(n), spare(n)
		for _, c := range calls {
			if c.call(a, b); !unchanged(a, was) || !unchanged(b, was) {
				t.Fatalf("%s changes %s", c.name, few(was))
			}
		}
	}
}

// filled changes all of l, its spare room too.
func filled(l []string) {
	l = l[:cap(l)]
	for i := range l {
		l[i] = "changed"
	}
}

// W2, W6, W7
func TestFreeIsNewMemory(t *testing.T) {
	x := node("unit")
	var want []string
	for i := range 100 {
		name := "n" + strconv.Itoa(i)
		x = node("seq", variable(name), x)
		want = append(want, name)
	}
	slices.SortFunc(want, strings.Compare)
	first, second := Free(x), Free(x)
	filled(first)
	if !slices.Equal(second, want) {
		t.Errorf("another answer is changed: %q", second)
	}
	wantFree(t, x, want...)
	each(&x, func(n *api.Node) { n.Name = "other" })
	Free(x)
	if !slices.Equal(second, want) {
		t.Errorf("the answer does not stay: %q", second)
	}
}

// wantExpected holds each call against what the document asks of n.
func wantExpected(t *testing.T, n api.Node) {
	t.Helper()
	size := 0
	each(&n, func(*api.Node) { size++ })
	if got := Size(n); got != min(size, 2001) {
		t.Errorf("Size(%s): %d, want %d", few(n), got, min(size, 2001))
	}
	if got, want := Is(n), size <= 2000 && expectedIs(n); got != want {
		t.Errorf("Is(%s): %v, want %v", few(n), got, want)
	}
	if !Same(n, copied(n)) || Same(n, node("raise", n)) {
		t.Errorf("Same(%s)", few(n))
	}
	wantExpectedFree(t, n)
}

// P5.1, P5.2
func TestRandomNodes(t *testing.T) {
	r := rand.New(rand.NewSource(55))
	whole := 0
	for range 4000 {
		n := randomNode(r, r.Intn(12))
		wantExpected(t, n)
		if expectedIs(n) {
			whole++
			if got, want := IsValue(n), expectedValue(n); got != want {
				t.Errorf("IsValue(%s): %v, want %v", few(n), got, want)
			}
		}
	}
	if whole < 1000 || whole > 3900 {
		t.Errorf("%d of 4000 have just what their Ops have", whole)
	}
}

// read is the nodes that bytes tell: which Op, a byte that turns one thing of
// it, the names; then its kids.
func read(b []byte, depth int) (api.Node, []byte) {
	if len(b) < 4 || depth == 0 {
		return number(3), nil
	}
	n := sample(ops[int(b[0])%len(ops)])
	name, arg := string(b[2:3]), string(b[3:4])
	if n.Name != "" || n.Op == "str" {
		n.Name = name
	}
	if n.Arg != "" {
		n.Arg = arg
	}
	if i := int(b[1]); i >= 256-len(turns()) {
		turns()[255-i](&n)
	}
	b = b[4:]
	for i := range n.Kids {
		n.Kids[i], b = read(b, depth-1)
	}
	return n, b
}

// Whatever the nodes: what the document asks of them.
func FuzzTree(f *testing.F) {
	for _, s := range []string{"", "\x06.xy\x05.x.", "\x08.fx\x15.xx\x05.f.\x05.x.\x05.x.", "\x0a.htab\x05.h.\x05.t.", "\x04.\".", "\x06\xffxy", "\x01\xfa.."} {
		f.Add([]byte(s))
	}
	f.Fuzz(func(t *testing.T, b []byte) {
		n, _ := read(b, 1000)
		wantExpected(t, n)
	})
}
