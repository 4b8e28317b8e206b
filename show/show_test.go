package show

import (
	"fmt"
	"math"
	"math/rand"
	"slices"
	"strconv"
	"strings"
	"testing"

	"emissary/api"
	"emissary/parse"
	"emissary/tree"
)

// form is an Op's text as the document writes it: X is Name, Y is Arg, 0, 1
// and 2 are its kids. Deeper is by how much an atom's place is deeper in each
// kid than ahead of the Op: by the parentheses, and by an expr of its own.
type form struct {
	op, text string
	deeper   []int
}

// forms is each Op that has kids.
var forms = []form{
	{"pair", "(0, 1)", []int{1, 1}},
	{"get", "!0", []int{1}},
	{"fun", "(fun X -> 0)", []int{2}},
	{"let", "(let X = 0 in 1)", []int{2, 2}},
	{"rec", "(let rec X Y = 0 in 1)", []int{2, 2}},
	{"if", "(if 0 then 1 else 2)", []int{2, 2, 2}},
	{"match", "(match 0 with [] -> 1 | X :: Y -> 2)", []int{2, 2, 2}},
	{"try", "(try 0 with X -> 1)", []int{2, 2}},
	{"seq", "(0; 1)", []int{1, 2}},
	{"set", "(0 := 1)", []int{1, 1}},
	{"eq", "(0 = 1)", []int{1, 1}},
	{"less", "(0 < 1)", []int{1, 1}},
	{"cons", "(0 :: 1)", []int{1, 1}},
	{"add", "(0 + 1)", []int{1, 1}},
	{"sub", "(0 - 1)", []int{1, 1}},
	{"cat", "(0 ^ 1)", []int{1, 1}},
	{"mul", "(0 * 1)", []int{1, 1}},
	{"app", "(0 1)", []int{1, 1}},
	{"raise", "(raise 0)", []int{1}},
	{"fst", "(fst 0)", []int{1}},
	{"snd", "(snd 0)", []int{1}},
	{"ref", "(ref 0)", []int{1}},
	{"cell", "(cell 0)", []int{1}},
	{"tag", "(tag 0)", []int{1}},
	{"links", "(links 0)", []int{1}},
	{"size", "(size 0)", []int{1}},
	{"print", "(print 0)", []int{1}},
	{"link", "(link 0 1)", []int{1, 1}},
}

// longest is a name of as many letters as may be.
const longest = "a_long'name1"

func node(op string, kids ...api.Node) api.Node { return api.Node{Op: op, Kids: kids} }

func number(n int64) api.Node       { return api.Node{Op: "int", N: n} }
func boolean(n int64) api.Node      { return api.Node{Op: "bool", N: n} }
func text(s string) api.Node        { return api.Node{Op: "str", Name: s} }
func variable(name string) api.Node { return api.Node{Op: "var", Name: name} }

// leaves is each Op that has no kids, with its text.
func leaves() map[string]api.Node {
	return map[string]api.Node{
		"0": number(0), "7": number(7), "10": number(10), "1234567890": number(1234567890),
		"999999999999999999": number(999999999999999999), "100000000000000000": number(100000000000000000),
		"true": boolean(1), "false": boolean(0), "()": node("unit"), "[]": node("nil"),
		`""`: text(""), `" "`: text(" "), `"a b"`: text("a b"), `"(x)"`: text("(x)"), `"let"`: text("let"), `"\n"`: text(`\n`),
		"x": variable("x"), "z'": variable("z'"), "lets": variable("lets"), longest: variable(longest),
	}
}

// whole is a node of that form with those names, as far as it has names.
func (f form) whole(name, arg string, kids ...api.Node) api.Node {
	n := node(f.op, kids...)
	if strings.Contains(f.text, "X") {
		n.Name = name
	}
	if strings.Contains(f.text, "Y") {
		n.Arg = arg
	}
	return n
}

// sample is a node of that form whose kids are the vars a, b, c.
func (f form) sample() api.Node {
	abc := []api.Node{variable("a"), variable("b"), variable("c")}
	return f.whole("x", "y", abc[:len(f.deeper)]...)
}

// formOf is the form of an Op, if it has kids.
func formOf(op string) (form, bool) {
	for _, f := range forms {
		if f.op == op {
			return f, true
		}
	}
	return form{}, false
}

// expected is n's text by the document's forms, the kids' texts first.
func expected(n api.Node) string {
	f, ok := formOf(n.Op)
	if !ok {
		switch n.Op {
		case "int":
			return fmt.Sprint(n.N)
		case "bool":
			return []string{"false", "true"}[n.N]
		case "unit":
			return "()"
		case "nil":
			return "[]"
		case "str":
			return "\"" + n.Name + "\""
		}
		return n.Name
	}
	old := []string{"X", n.Name, "Y", n.Arg}
	for i, k := range n.Kids {
		old = append(old, fmt.Sprint(i), expected(k))
	}
	return strings.NewReplacer(old...).Replace(f.text)
}

// depth is how deep the deepest expr or atom of n's text is, if its first atom
// is d deep.
func depth(n api.Node, d int) int {
	most := d
	f, _ := formOf(n.Op)
	for i, k := range n.Kids {
		most = max(most, depth(k, d+f.deeper[i]))
	}
	return most
}

func few(s string) string { return s[:min(len(s), 150)] }

// wantText holds Text of n, which Is one, against a text.
func wantText(t *testing.T, n api.Node, want string) {
	t.Helper()
	if got := Text(n); got != want {
		t.Errorf("Text of %s: %q, want %q", few(fmt.Sprint(n)), few(got), few(want))
	}
}

// wantBack parses n's text: it is n again, and shows alike, unless it is too
// long or too deep.
func wantBack(t *testing.T, n api.Node) {
	t.Helper()
	s := Text(n)
	want := api.OK
	if len(s) > api.MaxText {
		want = api.ErrLimit
	} else if depth(n, 0) >= api.MaxDepth {
		want = api.ErrDeep
	}
	back, _, err := parse.Parse(s)
	if err != want {
		t.Errorf("Parse of %q: error %d, want %d", few(s), err, want)
	}
	if err == api.OK && (!tree.Same(back, n) || Text(back) != s) {
		t.Errorf("Parse of %q: %s, whose text is %q", few(s), few(fmt.Sprint(back)), few(Text(back)))
	}
}

// wantExpected holds Text of n, which Is one, against all that the document
// says.
func wantExpected(t *testing.T, n api.Node) {
	t.Helper()
	if !tree.Is(n) {
		t.Fatalf("%s is none", few(fmt.Sprint(n)))
	}
	wantText(t, n, expected(n))
	wantBack(t, n)
}

// P7.1, P7.2
func TestTheExample(t *testing.T) {
	n := node("app", variable("f"), node("add", number(1), number(2)))
	wantText(t, n, "(f (1 + 2))")
	wantBack(t, n)
}

// P7.1, P7.2
func TestOpsWithoutKids(t *testing.T) {
	for want, n := range leaves() {
		wantText(t, n, want)
		wantExpected(t, n)
	}
}

// P7.1, P7.2
func TestOpsWithKids(t *testing.T) {
	if len(forms) != 28 {
		t.Fatalf("%d Ops with kids", len(forms))
	}
	for _, f := range forms {
		want := strings.NewReplacer("0", "a", "1", "b", "2", "c", "X", "x", "Y", "y").Replace(f.text)
		wantText(t, f.sample(), want)
		wantExpected(t, f.sample())
	}
	wantText(t, api.Node{Op: "match", Name: "h", Arg: "t", Kids: []api.Node{variable("l"), number(0), variable("h")}}, "(match l with [] -> 0 | h :: t -> h)")
	wantText(t, api.Node{Op: "rec", Name: "f", Arg: "x", Kids: []api.Node{variable("x"), variable("f")}}, "(let rec f x = x in f)")
	wantText(t, node("link", variable("a"), node("tag", variable("a"))), "(link a (tag a))")
}

// P7.1, P7.2: in each of its places each Op, and each Op in that.
func TestEachOpAsEachKid(t *testing.T) {
	var all []api.Node
	for _, n := range leaves() {
		all = append(all, n)
	}
	for _, f := range forms {
		all = append(all, f.sample())
	}
	for _, f := range forms {
		for i := range f.deeper {
			for _, kid := range all {
				n := f.sample()
				n.Kids[i] = kid
				wantExpected(t, n)
				for _, g := range forms {
					for k := range g.deeper {
						outer := g.sample()
						outer.Kids[k] = n
						wantExpected(t, outer)
					}
				}
			}
		}
	}
}

// P7.1: the kid of a get has no parentheses but its own.
func TestGetOfEachOp(t *testing.T) {
	for s, n := range leaves() {
		wantText(t, node("get", n), "!"+s)
		wantText(t, node("get", node("get", node("get", n))), "!!!"+s)
		wantExpected(t, node("get", node("get", node("get", n))))
	}
	for _, f := range forms {
		n := f.sample()
		wantText(t, node("get", n), "!"+expected(n))
		wantText(t, node("get", node("get", node("get", n))), "!!!"+expected(n))
		wantExpected(t, node("get", node("get", node("get", n))))
	}
	x := variable("x")
	wantText(t, node("get", node("pair", x, x)), "!(x, x)")
	wantText(t, node("get", node("add", x, x)), "!(x + x)")
	wantText(t, node("get", node("unit")), "!()")
	wantText(t, node("app", node("get", x), node("get", node("get", x))), "(!x !!x)")
	wantText(t, node("get", node("raise", node("get", x))), "!(raise !x)")
}

// P7.1, P7.2
func TestNumbers(t *testing.T) {
	for digits, n := 1, int64(1); digits <= 18; digits, n = digits+1, n*10 {
		for _, x := range []int64{n, n + 1, n * 7, n*10 - 1} {
			wantText(t, number(x), strconv.FormatInt(x, 10))
			wantBack(t, number(x))
			if len(Text(number(x))) != digits {
				t.Errorf("%d: %q", x, Text(number(x)))
			}
		}
	}
	wantText(t, number(999999999999999999), strings.Repeat("9", 18))
	wantText(t, node("sub", number(0), number(1)), "(0 - 1)")
}

// P7.1, P7.2: every byte that may be in a string, alone and among others.
func TestStrings(t *testing.T) {
	all := ""
	for c := byte(' '); c <= '~'; c++ {
		if c == '"' {
			continue
		}
		s := string([]byte{c})
		all += s
		for _, s := range []string{s, s + s, "a" + s, s + "b", " " + s + " ", strings.Repeat(s, 40)} {
			wantText(t, text(s), "\""+s+"\"")
			wantBack(t, node("cat", text(s), text("")))
		}
	}
	for i := range len(all) - 40 {
		wantText(t, text(all[i:i+40]), "\""+all[i:i+40]+"\"")
		wantBack(t, text(all[i:i+40]))
	}
	wantText(t, node("app", text(""), text(" ")), `("" " ")`)
	wantText(t, node("pair", text(", "), text(")")), `(", ", ")")`)
}

// P7.1, P7.2: wherever a name may stand.
func TestNames(t *testing.T) {
	for _, name := range []string{"a", "z", "a'", "a_", "a0", "lett", "le", "recs", "truey", "links1", "x''''", strings.Repeat("z", 12), longest} {
		wantText(t, variable(name), name)
		for _, f := range forms {
			for _, other := range []string{"q", name, longest} {
				kids := slices.Repeat([]api.Node{variable(name)}, len(f.deeper))
				wantExpected(t, f.whole(name, other, kids...))
				wantExpected(t, f.whole(other, name, kids...))
			}
		}
	}
}

// each calls f with each node of n.
func each(n *api.Node, f func(*api.Node)) {
	f(n)
	for i := range n.Kids {
		each(&n.Kids[i], f)
	}
}

// P7.1
func TestPlacesDoNotMatter(t *testing.T) {
	for i, at := range []int{1, -1, 7, math.MaxInt, math.MinInt} {
		for _, f := range forms {
			n := f.sample()
			want := Text(n)
			each(&n, func(x *api.Node) { x.At = at - min(i, 1)*len(x.Op) })
			wantText(t, n, want)
		}
	}
	n, _, _ := parse.Parse("  f\n(x ;\ty)")
	wantText(t, n, "(f (x; y))")
}

// P7.1: no kids are a nil list, or an empty one.
func TestNoKidsNilOrEmpty(t *testing.T) {
	for s, n := range leaves() {
		n.Kids = []api.Node{}
		wantText(t, n, s)
	}
}

// P7.2: what a text says in few signs is the same with all parentheses.
func TestTextsOfParsed(t *testing.T) {
	for s, want := range map[string]string{
		"f x y":                           "((f x) y)",
		"a - b - c":                       "((a - b) - c)",
		"a :: b :: []":                    "(a :: (b :: []))",
		"a; b; c":                         "(a; (b; c))",
		"r := !r + 2 * 3":                 "(r := (!r + (2 * 3)))",
		"((x))":                           "x",
		"!((x))":                          "!x",
		"!(!x)":                           "!!x",
		"let f = fun x -> x x in f":       "(let f = (fun x -> (x x)) in f)",
		"let rec f x = f x in f 1 = true": "(let rec f x = (f x) in ((f 1) = true))",
		"if a < b then \"\" else \"b\"^s": "(if (a < b) then \"\" else (\"b\" ^ s))",
		"match l with []->()|h::t->h;t":   "(match l with [] -> () | h :: t -> (h; t))",
		"try raise 1 with e -> link a b":  "(try (raise 1) with e -> (link a b))",
		"print (fst(1,snd p))":            "(print (fst (1, (snd p))))",
		"(1, 2)":                          "(1, 2)",
	} {
		n, _, err := parse.Parse(s)
		if err != api.OK {
			t.Errorf("%q: error %d", s, err)
		}
		wantText(t, n, want)
		wantExpected(t, n)
	}
}

// small is all expressions of at most size nodes: size[i] is those of i + 1.
func small(most int) [][]api.Node {
	sizes := [][]api.Node{{number(0), number(1), boolean(0), boolean(1), node("unit"), node("nil"), text(""), text("x"), text("true"), variable("x"), variable("y")}}
	for size := 2; size <= most; size++ {
		var l []api.Node
		for _, f := range forms {
			for _, kids := range rows(sizes, len(f.deeper), size-1) {
				l = append(l, f.whole("x", "x", kids...))
				if strings.Contains(f.text, "X") {
					l = append(l, f.whole("y", "x", kids...))
				}
				if strings.Contains(f.text, "Y") {
					l = append(l, f.whole("x", "y", kids...))
				}
			}
		}
		sizes = append(sizes, l)
	}
	return sizes
}

// rows is each row of that many kids that have that many nodes in all.
func rows(sizes [][]api.Node, kids, nodes int) (all [][]api.Node) {
	if kids == 1 {
		for _, k := range sizes[nodes-1] {
			all = append(all, []api.Node{k})
		}
		return all
	}
	for first := 1; first <= nodes-kids+1; first++ {
		for _, k := range sizes[first-1] {
			for _, rest := range rows(sizes, kids-1, nodes-first) {
				all = append(all, append([]api.Node{k}, rest...))
			}
		}
	}
	return all
}

// P7.1, P7.2: no two of all small expressions have one text.
func TestEverySmallExpression(t *testing.T) {
	seen := map[string]api.Node{}
	for _, l := range small(4) {
		for _, n := range l {
			s := Text(n)
			if other, ok := seen[s]; ok {
				t.Fatalf("%q is the text of %v and of %v", s, n, other)
			}
			seen[s] = n
			wantExpected(t, n)
		}
	}
}

// turns is what a node may be turned to, in one thing.
func turns(n api.Node) (l []api.Node) {
	add := func(f func(*api.Node)) {
		x := copied(n)
		f(&x)
		if tree.Is(x) {
			l = append(l, x)
		}
	}
	for _, f := range forms {
		add(func(x *api.Node) { x.Op = f.op })
	}
	for _, op := range []string{"int", "bool", "unit", "nil", "str", "var"} {
		add(func(x *api.Node) { x.Op = op })
	}
	for _, s := range []string{"", " ", "'", "0", "x"} {
		add(func(x *api.Node) { x.Name += s })
		add(func(x *api.Node) { x.Arg += s })
		add(func(x *api.Node) { x.Name = s + x.Name })
	}
	for _, by := range []int64{-1, 1, 9, 10, 1000000} {
		add(func(x *api.Node) { x.N += by })
		add(func(x *api.Node) { x.N *= by })
	}
	add(func(x *api.Node) { x.Name, x.Arg = x.Arg, x.Name })
	add(func(x *api.Node) { slices.Reverse(x.Kids) })
	for i := range n.Kids {
		for _, k := range turns(n.Kids[i]) {
			add(func(x *api.Node) { x.Kids[i] = k })
		}
	}
	return l
}

// copied is n in memory of its own.
func copied(n api.Node) api.Node {
	kids := n.Kids
	n.Kids = nil
	for _, k := range kids {
		n.Kids = append(n.Kids, copied(k))
	}
	return n
}

// P7.2: two that differ in one thing, there or further down.
func TestTwoThatDiffer(t *testing.T) {
	var all []api.Node
	for _, n := range leaves() {
		all = append(all, n, node("get", node("add", number(3), n)))
	}
	for _, f := range forms {
		n := f.sample()
		all = append(all, n, node("app", node("pair", n, number(1)), n))
	}
	for _, n := range all {
		count := 0
		for _, x := range turns(n) {
			if tree.Same(x, n) {
				continue
			}
			count++
			if Text(x) == Text(n) {
				t.Errorf("%q is the text of %v and of %v", Text(n), n, x)
			}
			wantBack(t, x)
		}
		if count == 0 {
			t.Errorf("%v is turned to nothing", n)
		}
	}
}

// padded is an expression whose text has that many bytes, from 596 on: a tree
// of 100 strings.
func padded(length int) api.Node {
	l := slices.Repeat([]api.Node{text("")}, 100)
	for spare := length - 2*100 - 4*99; spare > 0; {
		for i := range l {
			if spare > 0 {
				l[i].Name += "s"
				spare--
			}
		}
	}
	for len(l) > 1 {
		var half []api.Node
		for i := 0; i+1 < len(l); i += 2 {
			half = append(half, node("pair", l[i], l[i+1]))
		}
		if len(l)%2 == 1 {
			half = append(half, l[len(l)-1])
		}
		l = half
	}
	return l[0]
}

// wantParse parses n's text, and it errs so.
func wantParse(t *testing.T, n api.Node, want api.Errno) {
	t.Helper()
	if _, _, err := parse.Parse(Text(n)); err != want {
		t.Errorf("Parse of %q: error %d, want %d", few(Text(n)), err, want)
	}
	wantExpected(t, n)
}

// P7.2
func TestLongestText(t *testing.T) {
	for _, length := range []int{1000, 1998, 1999, 2000, 2001, 2002, 4000} {
		n := padded(length)
		if len(Text(n)) != length {
			t.Errorf("%d bytes, want %d", len(Text(n)), length)
		}
		if length <= 2000 {
			wantParse(t, n, api.OK)
		} else {
			wantParse(t, n, api.ErrLimit)
		}
	}
}

// nested is n of that form in one another, by its kid i.
func nested(f form, i, n int, core api.Node) api.Node {
	for range n {
		outer := f.sample()
		outer.Kids[i] = core
		core = outer
	}
	return core
}

// P7.2: by each kid of each Op, as deep as may be and one more.
func TestDeepestText(t *testing.T) {
	for _, f := range forms {
		for i, by := range f.deeper {
			most := (39-slices.Max(f.deeper))/by + 1
			for _, core := range []api.Node{number(1), node("unit"), node("nil"), text("a")} {
				wantParse(t, nested(f, i, most-1, core), api.OK)
				wantParse(t, nested(f, i, most, core), api.OK)
				wantParse(t, nested(f, i, most+1, core), api.ErrDeep)
			}
		}
	}
	deep := nested(forms[0], 1, 200, number(1))
	if len(Text(deep)) >= api.MaxText {
		t.Errorf("%d bytes", len(Text(deep)))
	}
	wantParse(t, deep, api.ErrDeep)
	wantParse(t, nested(forms[0], 1, 1000/2-1, number(1)), api.ErrLimit)
}

// row is n nodes, each the only kid of the one above it.
func row(op string, n int) api.Node {
	x := number(0)
	for range n - 1 {
		x = node(op, x)
	}
	return x
}

// bush is n nodes, half of them beside the other half.
func bush(n int) api.Node {
	switch n {
	case 1:
		return variable("x")
	case 2:
		return node("get", number(1))
	}
	left := (n - 1) / 2
	return node("seq", bush(left), bush(n-1-left))
}

// comb is n nodes, an odd number, that go down by their first or last kids.
func comb(n, down int) api.Node {
	x := node("nil")
	for range (n - 1) / 2 {
		kids := []api.Node{number(1), number(1)}
		kids[down] = x
		x = node("cons", kids...)
	}
	return x
}

// P7.1, P7.2
func TestMostNodes(t *testing.T) {
	for _, n := range []api.Node{row("raise", 2000), row("print", 2000), bush(2000), node("get", comb(1999, 0)), node("get", comb(1999, 1))} {
		if tree.Size(n) != api.MaxNodes {
			t.Errorf("%d nodes", tree.Size(n))
		}
		wantParse(t, n, api.ErrLimit)
	}
	wantText(t, row("get", 2000), strings.Repeat("!", 1999)+"0")
	wantParse(t, row("get", 2000), api.ErrDeep)
	wantText(t, row("raise", 2000), strings.Repeat("(raise ", 1999)+"0"+strings.Repeat(")", 1999))
	wantText(t, comb(1999, 1), strings.Repeat("(1 :: ", 999)+"[]"+strings.Repeat(")", 999))
	wantParse(t, bush(500), api.OK)
	wantParse(t, comb(79, 0), api.OK)
	wantParse(t, comb(81, 0), api.ErrDeep)
}

// W1: of what is no expression nothing is said but that it ends; it has no
// text.
func TestNodesThatAreNone(t *testing.T) {
	loop := make([]api.Node, 2)
	loop[0], loop[1] = node("pair", loop...), node("seq", loop...)
	twice := number(1)
	for range 100 {
		twice = node("pair", twice, twice)
	}
	l := []api.Node{{}, node("nope"), node("(", number(1)), loop[0], node("get", loop[0]), twice, row("get", 2001), row("get", 1<<16), bush(2001),
		number(-1), number(math.MinInt64), number(math.MaxInt64), number(1000000000000000000), boolean(2), boolean(-1),
		text("\""), text("\n"), text(strings.Repeat("a", 41)), text(strings.Repeat("\xff", 1<<20)), variable(""), variable("let"), variable("X"), variable("a b"),
		variable(longest + "2"), {Op: "unit", Name: "x"}, {Op: "var", Name: "x", N: 1}}
	for _, f := range forms {
		for kids := range 6 {
			if n := f.whole("x", "y", slices.Repeat([]api.Node{number(1)}, kids)...); kids != len(f.deeper) {
				l = append(l, n)
			}
		}
		n := f.sample()
		n.Name += "?"
		l = append(l, n)
		n = f.sample()
		n.Kids[len(n.Kids)-1] = node("add", number(1))
		l = append(l, n)
	}
	for _, n := range l {
		wantText(t, n, "")
	}
}

// spare is n with room behind the end of each list, in which other nodes are.
func spare(n api.Node) api.Node {
	kids := make([]api.Node, 0, len(n.Kids)+2)
	for _, k := range n.Kids {
		kids = append(kids, spare(k))
	}
	n.Kids = append(kids, number(81), number(82))[:len(kids)]
	return n
}

// unchanged tells whether n is what it was, At and spare room too.
func unchanged(n, was api.Node) bool {
	if n.Op != was.Op || n.Name != was.Name || n.Arg != was.Arg || n.N != was.N || n.At != was.At ||
		len(n.Kids) != len(was.Kids) || cap(n.Kids) != cap(was.Kids) {
		return false
	}
	a, b := n.Kids[:cap(n.Kids)], was.Kids[:cap(was.Kids)]
	return slices.EqualFunc(a, b, unchanged)
}

// W6, W7: and what was answered stays what it is.
func TestNothingIsChanged(t *testing.T) {
	for _, f := range forms {
		for _, kid := range forms {
			n := f.sample()
			n.Kids[0] = kid.sample()
			each(&n, func(x *api.Node) { x.At = len(x.Op) })
			given, was := spare(n), spare(n)
			s := Text(given)
			if !unchanged(given, was) {
				t.Errorf("Text changed %v", n)
			}
			each(&given, func(x *api.Node) { x.Op, x.Name, x.Kids = "unit", "", nil })
			if Text(given); s != expected(n) {
				t.Errorf("the text of %v changed", n)
			}
		}
	}
}

// W2: one after another, and again.
func TestNothingIsKept(t *testing.T) {
	for range 3 {
		for _, f := range forms {
			wantText(t, f.sample(), expected(f.sample()))
			wantText(t, node("nope"), "")
		}
	}
}

// randomNode is one of at most room nodes.
func randomNode(r *rand.Rand, room int) api.Node {
	f := forms[r.Intn(len(forms))]
	if room <= len(f.deeper) || r.Intn(12) == 0 {
		return randomLeaf(r)
	}
	names := []string{"a", "b", "f", "x'", "long_name_1", longest}
	n := f.whole(names[r.Intn(len(names))], names[r.Intn(len(names))])
	room--
	for i := range f.deeper {
		share := 1
		if left := len(f.deeper) - i - 1; left == 0 {
			share = room
		} else if room-left > 1 {
			share += r.Intn(room - left)
		}
		n.Kids = append(n.Kids, randomNode(r, share))
		room -= share
	}
	return n
}

func randomLeaf(r *rand.Rand) api.Node {
	switch r.Intn(6) {
	case 0:
		return number(r.Int63n(int64(math.Pow10(1 + r.Intn(18)))))
	case 1:
		return boolean(r.Int63n(2))
	case 2:
		return node("unit")
	case 3:
		return node("nil")
	case 4:
		b := make([]byte, r.Intn(41))
		for i := range b {
			b[i] = " !#$%&'()*+,-./0189:;<=>?@AZ[]^_`az{|}~\\"[r.Intn(39)]
		}
		return text(string(b))
	}
	return variable([]string{"a", "b", "f", "x'", "z9", longest}[r.Intn(6)])
}

// P7.1, P7.2
func TestRandomExpressions(t *testing.T) {
	r := rand.New(rand.NewSource(7))
	for range 6000 {
		wantExpected(t, randomNode(r, 1+r.Intn(60)))
	}
	for range 60 {
		wantExpected(t, randomNode(r, 2000))
	}
}

// read is an expression that the bytes tell, and the bytes behind it.
func read(b []byte, deep int) (api.Node, []byte) {
	if len(b) == 0 || deep == 0 {
		return node("unit"), b
	}
	c := int(b[0])
	b = b[1:]
	if c < 200 {
		f := forms[c%len(forms)]
		n := f.whole([]string{"x", longest}[c/28%2], []string{"y", "x"}[c/56%2])
		for range f.deeper {
			var k api.Node
			k, b = read(b, deep-1)
			n.Kids = append(n.Kids, k)
		}
		return n, b
	}
	switch c % 6 {
	case 0:
		return number(int64(c) * 1111111111111111), b
	case 1:
		return boolean(int64(c / 6 % 2)), b
	case 2:
		return node("nil"), b
	case 3:
		size := min(len(b), c-200, 40)
		s := strings.Map(inString, string(b[:size]))
		return text(s), b[size:]
	case 4:
		return variable("v" + strconv.Itoa(c)), b
	}
	return number(int64(c / 6 % 10)), b
}

// inString is the rune itself, if it may be in a string, else none.
func inString(c rune) rune {
	if c < ' ' || c > '~' || c == '"' {
		return -1
	}
	return c
}

// P7.1, P7.2
func FuzzText(f *testing.F) {
	for _, s := range []string{"", "\x00\xcc\xcd", "\x01\x01\xce", "\x06\xf9 a; b\xce\x02\xce", "\x1b\x01\xd0\xd1", "\x04\x05\xc8\xc9\xca\x11\xcc\xcc"} {
		f.Add([]byte(s))
	}
	f.Fuzz(func(t *testing.T, b []byte) {
		if n, _ := read(b, 300); tree.Is(n) {
			wantExpected(t, n)
		}
	})
}
