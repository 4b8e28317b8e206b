package parse

import (
	"fmt"
	"math/rand"
	"reflect"
	"strconv"
	"strings"
	"testing"

	"emissary/api"
	"emissary/lex"
	"emissary/tree"
)

// say is a node in brackets: (Op:Name:Arg kids), At aside; a leaf is short.
func say(n api.Node) string {
	switch n.Op {
	case "int":
		return strconv.FormatInt(n.N, 10)
	case "bool":
		return strconv.FormatBool(n.N == 1)
	case "unit":
		return "()"
	case "nil":
		return "[]"
	case "str":
		return `"` + n.Name + `"`
	case "var":
		return n.Name
	}
	s := "(" + n.Op
	for _, name := range []string{n.Name, n.Arg} {
		if name != "" {
			s += ":" + name
		}
	}
	for _, k := range n.Kids {
		s += " " + say(k)
	}
	return s + ")"
}

// few is what a message tells of s.
func few(s string) string { return s[:min(len(s), 100)] }

// same tells whether two nodes are one, At too.
func same(a, b api.Node) bool {
	if !tree.Same(a, b) || a.At != b.At {
		return false
	}
	for i := range a.Kids {
		if !same(a.Kids[i], b.Kids[i]) {
			return false
		}
	}
	return true
}

func isEmpty(n api.Node) bool { return same(n, api.Node{}) }

// wantExpected holds Parse against the second working-out.
func wantExpected(t *testing.T, s string) {
	t.Helper()
	n, at, err := Parse(s)
	wantN, wantAt, wantErr := expected(s)
	if at != wantAt || err != wantErr || !same(n, wantN) {
		t.Errorf("%q: %s %d %d, want %s %d %d", few(s), few(say(n)), at, err, few(say(wantN)), wantAt, wantErr)
	}
	if err == api.OK && tree.Is(n) != (tree.Size(n) <= api.MaxNodes) {
		t.Errorf("%q: of %d nodes, and Is says %v", few(s), tree.Size(n), tree.Is(n))
	}
}

func wantNode(t *testing.T, s, want string) {
	t.Helper()
	n, at, err := Parse(s)
	if say(n) != want || at != len(s) || err != api.OK {
		t.Errorf("%q: %s %d %d, want %s", few(s), few(say(n)), at, err, few(want))
	}
	wantExpected(t, s)
}

func wantErr(t *testing.T, s string, place int, want api.Errno) {
	t.Helper()
	n, at, err := Parse(s)
	if !isEmpty(n) || at != place || err != want {
		t.Errorf("%q: %s %d %d, want %d %d", few(s), few(say(n)), at, err, place, want)
	}
	wantExpected(t, s)
}

// fits is texts that fit, each line of the grammar among them, with what may be
// left out and without it, and with what may be repeated not at all, once and
// several times.
var fits = [][2]string{
	// program, and expr
	{"let x = a in b", "(let:x a b)"},
	{"let x = let y = a in b in c", "(let:x (let:y a b) c)"},
	{"let x = a in let y = b in c", "(let:x a (let:y b c))"},
	{"let x = a; b in c; d", "(let:x (seq a b) (seq c d))"},
	{"let rec f x = a in b", "(rec:f:x a b)"},
	{"let rec f f = let rec g y = a in b in let rec h z = c in d", "(rec:f:f (rec:g:y a b) (rec:h:z c d))"},
	{"fun x -> a", "(fun:x a)"},
	{"fun x -> fun y -> a; b", "(fun:x (fun:y (seq a b)))"},
	{"if a then b else c", "(if a b c)"},
	{"if if a then b else c then if d then e else f else if g then h else i", "(if (if a b c) (if d e f) (if g h i))"},
	{"if a; b then c; d else e; f", "(if (seq a b) (seq c d) (seq e f))"},
	{"match a with [] -> b | x :: y -> c", "(match:x:y a b c)"},
	{"match [] with [] -> [] | x :: x -> []", "(match:x:x [] [] [])"},
	{"match match a with [] -> b | x :: y -> c with [] -> match d with [] -> e | z :: u -> f | v :: w -> match g with [] -> h | q :: r -> i",
		"(match:v:w (match:x:y a b c) (match:z:u d e f) (match:q:r g h i))"},
	{"match a; b with [] -> c; d | x :: y -> e; f", "(match:x:y (seq a b) (seq c d) (seq e f))"},
	{"try a with x -> b", "(try:x a b)"},
	{"try try a with x -> b with y -> try c with z -> d", "(try:y (try:x a b) (try:z c d))"},
	{"try match a with [] -> b | x :: y -> c with z -> d", "(try:z (match:x:y a b c) d)"},
	{"match try a with x -> b with [] -> c | y :: z -> d", "(match:y:z (try:x a b) c d)"},
	{"try a; b with x -> c; d", "(try:x (seq a b) (seq c d))"},
	// No atom fits behind a raise's: what must stand there is missed at once.
	{"let x = raise a in raise b", "(let:x (raise a) (raise b))"},
	{"if raise a then raise b else raise c", "(if (raise a) (raise b) (raise c))"},
	{"match raise a with [] -> raise b | x :: y -> raise c", "(match:x:y (raise a) (raise b) (raise c))"},
	{"try raise a with x -> raise b", "(try:x (raise a) (raise b))"},
	{"a", "a"},
	{"a; b", "(seq a b)"},
	{"a; b; c; d", "(seq a (seq b (seq c d)))"},
	{"a; fun x -> b; c", "(seq a (fun:x (seq b c)))"},
	{"a; let x = b in c", "(seq a (let:x b c))"},
	{"a; if b then c else d", "(seq a (if b c d))"},
	// set, cmp, cons
	{"a := b", "(set a b)"},
	{"a := b; c := d", "(seq (set a b) (set c d))"},
	{"a = b", "(eq a b)"},
	{"a < b", "(less a b)"},
	{"a = b := c < d", "(set (eq a b) (less c d))"},
	{"a :: b", "(cons a b)"},
	{"a :: b :: c :: d", "(cons a (cons b (cons c d)))"},
	{"a :: b = c :: d", "(eq (cons a b) (cons c d))"},
	// sum, prod
	{"a + b", "(add a b)"},
	{"a - b", "(sub a b)"},
	{"a ^ b", "(cat a b)"},
	{"a - b - c - d", "(sub (sub (sub a b) c) d)"},
	{"a + b - c ^ d", "(cat (sub (add a b) c) d)"},
	{"a * b", "(mul a b)"},
	{"a * b * c * d", "(mul (mul (mul a b) c) d)"},
	{"a * b - c * d", "(sub (mul a b) (mul c d))"},
	{"a + b :: c - d", "(cons (add a b) (sub c d))"},
	// app, one
	{"raise a", "(raise a)"},
	{"link a b", "(link a b)"},
	{"link (a b) !c", "(link (app a b) (get c))"},
	{"fst a", "(fst a)"},
	{"snd a", "(snd a)"},
	{"ref a", "(ref a)"},
	{"cell a", "(cell a)"},
	{"tag a", "(tag a)"},
	{"links a", "(links a)"},
	{"size a", "(size a)"},
	{"print a", "(print a)"},
	{"raise !a * link b c", "(mul (raise (get a)) (link b c))"},
	{"fst (snd (ref a))", "(fst (snd (ref a)))"},
	{"a b", "(app a b)"},
	{"a b c d", "(app (app (app a b) c) d)"},
	{"a 1 true \"s\" !b () (c) (d, e) []", `(app (app (app (app (app (app (app (app a 1) true) "s") (get b)) ()) c) (pair d e)) [])`},
	{"1 2", "(app 1 2)"},
	{"(fst a) b", "(app (fst a) b)"},
	// atom
	{"0", "0"},
	{"999999999999999999", "999999999999999999"},
	{"true", "true"},
	{"false", "false"},
	{`""`, `""`},
	{`"let x"`, `"let x"`},
	{"abc_1'", "abc_1'"},
	{"!a", "(get a)"},
	{"!!!a", "(get (get (get a)))"},
	{"!(a b) !c", "(app (get (app a b)) (get c))"},
	{"!a b", "(app (get a) b)"},
	{"a !b", "(app a (get b))"},
	{"!1 !true !\"s\" !() ![]", `(app (app (app (app (get 1) (get true)) (get "s")) (get ())) (get []))`},
	{"()", "()"},
	{"( )", "()"},
	{"(a)", "a"},
	{"((((a))))", "a"},
	{"(())", "()"},
	{"(a; b)", "(seq a b)"},
	{"(fun x -> a) b", "(app (fun:x a) b)"},
	{"(a, b)", "(pair a b)"},
	{"((a, b), (c, d))", "(pair (pair a b) (pair c d))"},
	{"(a; b, fun x -> c; d)", "(pair (seq a b) (fun:x (seq c d)))"},
	{"[]", "[]"},
	{"[ ]", "[]"},
	{"(let x = a in b) + (if a then b else c)", "(add (let:x a b) (if a b c))"},
}

func TestTextsThatFit(t *testing.T) {
	for _, x := range fits {
		wantNode(t, x[0], x[1])
		wantNode(t, "("+x[0]+")", x[1])
		wantNode(t, "\n\t "+strings.Join(cut(t, x[0]), " \t\n")+"\t ", x[1])
	}
}

func TestTheExample(t *testing.T) { wantNode(t, "f x y", "(app (app f x) y)") }

// Each sign with two sides: how close it binds, and which of two alike comes
// first: the left one, the right one, or there are no two.
const (
	left = iota
	right
	neither
)

var signs = []struct {
	sign, op     string
	close, first int
}{
	{";", "seq", 0, right},
	{":=", "set", 1, neither},
	{"=", "eq", 2, neither}, {"<", "less", 2, neither},
	{"::", "cons", 3, right},
	{"+", "add", 4, left}, {"-", "sub", 4, left}, {"^", "cat", 4, left},
	{"*", "mul", 5, left},
	{"", "app", 6, left},
}

func TestEveryTwoSigns(t *testing.T) {
	for _, x := range signs {
		for _, y := range signs {
			head := "a " + x.sign + " b "
			s := head + y.sign + " c"
			leftOne := fmt.Sprintf("(%s (%s a b) c)", y.op, x.op)
			rightOne := fmt.Sprintf("(%s a (%s b c))", x.op, y.op)
			switch {
			case x.close > y.close || x.close == y.close && x.first == left:
				wantNode(t, s, leftOne)
			case x.close < y.close || x.first == right:
				wantNode(t, s, rightOne)
			default:
				wantErr(t, s, len(head), api.ErrForm)
			}
		}
	}
}

func TestEveryTwoSignsWithParentheses(t *testing.T) {
	for _, x := range signs {
		for _, y := range signs {
			wantNode(t, "(a "+x.sign+" b) "+y.sign+" c", fmt.Sprintf("(%s (%s a b) c)", y.op, x.op))
			wantNode(t, "a "+x.sign+" (b "+y.sign+" c)", fmt.Sprintf("(%s a (%s b c))", x.op, y.op))
		}
	}
}

// The words that take atoms, and !, bind closer than each sign.
func TestSignsBehindAtoms(t *testing.T) {
	for _, w := range []string{"raise", "fst", "snd", "ref", "cell", "tag", "links", "size", "print"} {
		for _, x := range signs[:len(signs)-1] {
			wantNode(t, w+" a "+x.sign+" "+w+" b", fmt.Sprintf("(%s (%s a) (%s b))", x.op, w, w))
			wantNode(t, "link a b "+x.sign+" link c d", fmt.Sprintf("(%s (link a b) (link c d))", x.op))
		}
	}
	for _, x := range signs {
		wantNode(t, "!a "+x.sign+" !b", fmt.Sprintf("(%s (get a) (get b))", x.op))
	}
}

// What begins with a word takes all signs behind it, and stands at the right of
// ; alone.
func TestSignsAroundExprs(t *testing.T) {
	for _, e := range [][2]string{
		{"let x = a in %s", "(let:x a %s)"},
		{"let rec f x = a in %s", "(rec:f:x a %s)"},
		{"fun x -> %s", "(fun:x %s)"},
		{"if a then b else %s", "(if a b %s)"},
		{"match a with [] -> b | x :: y -> %s", "(match:x:y a b %s)"},
		{"try a with x -> %s", "(try:x a %s)"},
	} {
		for _, x := range signs {
			wantNode(t, fmt.Sprintf(e[0], "c "+x.sign+" d"), fmt.Sprintf(e[1], "("+x.op+" c d)"))
			head := "c " + x.sign + " "
			if x.sign == ";" {
				wantNode(t, fmt.Sprintf(head+e[0], "d"), fmt.Sprintf("(seq c "+e[1]+")", "d"))
			} else {
				wantErr(t, fmt.Sprintf(head+e[0], "d"), len(head), api.ErrForm)
			}
		}
	}
}

func TestTokensThatDoNotFit(t *testing.T) {
	for _, x := range []struct {
		s     string
		place int
	}{
		{"", 0}, {" \n\t", 3}, {"a b ) c", 4}, {")", 0}, {"in", 0}, {"a in b", 2}, {"a , b", 2}, {"a | b", 2}, {"a -> b", 2}, {"a ]", 2},
		{"let", 3}, {"let ", 4}, {"let let", 4}, {"let (x) = a in b", 4}, {"let x a in b", 6}, {"let x = in b", 8}, {"let x = a", 9}, {"let x = a then b", 10}, {"let x = a in", 12}, {"let x y = a in b", 6}, {"let x := a in b", 6}, {"let \"x\" = a in b", 4},
		{"let rec", 7}, {"let rec f", 9}, {"let rec f = a in b", 10}, {"let rec f x y = a in b", 12}, {"let rec rec x = a in b", 8}, {"let rec f x = a", 15}, {"rec f x = a in b", 0},
		{"fun", 3}, {"fun -> a", 4}, {"fun x", 5}, {"fun x a", 6}, {"fun x y -> a", 6}, {"fun x ->", 8}, {"fun () -> a", 4}, {"fun x = a", 6},
		{"if", 2}, {"if a", 4}, {"if a then", 9}, {"if a then b", 11}, {"if a then b else", 16}, {"if a else b", 5}, {"if then", 3}, {"if a then b then c", 12},
		{"match", 5}, {"match a", 7}, {"match a with", 12}, {"match a with [", 14}, {"match a with [] b", 16}, {"match a with x :: y -> b", 13}, {"match a with [x] -> b", 14}, {"match a with [] -> b", 20}, {"match a with [] -> b |", 22}, {"match a with [] -> b | [] -> c", 23}, {"match a with [] -> b | x", 24}, {"match a with [] -> b | x -> c", 25}, {"match a with [] -> b | x := y -> c", 25}, {"match a with [] -> b | x ::", 27}, {"match a with [] -> b | x :: []", 28}, {"match a with [] -> b | x :: y", 29}, {"match a with [] -> b | x :: y :: z", 30}, {"match a with [] -> b | x :: y -> ", 33}, {"match a with | [] -> b", 13},
		{"try", 3}, {"try a", 5}, {"try a with", 10}, {"try a with [] -> b", 11}, {"try a with x", 12}, {"try a with x b", 13}, {"try a with x ->", 15}, {"try with", 4},
		{"a;", 2}, {";a", 0}, {"a;;b", 2}, {"a := b := c", 7}, {"a :=", 4}, {":= a", 0}, {"a = b = c", 6}, {"a = b < c", 6}, {"a < b < c", 6}, {"a < b = c", 6}, {"a =", 3}, {"a ::", 4}, {"a :: :: b", 5}, {"a +", 3}, {"+ a", 0}, {"- 1", 0}, {"a + - b", 4}, {"a * * b", 4}, {"a *", 3}, {"a ^ + b", 4},
		{"raise", 5}, {"raise a b", 8}, {"raise raise a", 6}, {"raise fst a", 6}, {"a raise b", 2}, {"link", 4}, {"link a", 6}, {"link a b c", 9}, {"link a link b c", 7}, {"fst", 3}, {"fst a b", 6}, {"fst snd a", 4}, {"a fst b", 2}, {"fst fun x -> x", 4}, {"f let x = a in b", 2}, {"a + fun x -> x", 4}, {"a := if b then c else d", 5},
		{"!", 1}, {"! ! ", 4}, {"!fst a", 1}, {"!)", 1}, {"a !", 3}, {"!let x = a in b", 1}, {"(", 1}, {"(a", 2}, {"(a b", 4}, {"(a]", 2}, {"(,", 1}, {"(a,", 3}, {"(a,)", 3}, {"(a, b", 5}, {"(a, b, c)", 5}, {"()) ", 2}, {"(a))", 3}, {"[", 1}, {"[a]", 1}, {"[(", 1}, {"[[]]", 1}, {"]", 0},
	} {
		wantErr(t, x.s, x.place, api.ErrForm)
	}
}

// pieces is a token of each kind, each word and each sign, as texts.
func pieces() []string {
	l := append([]string{"q", "7", `"t"`}, lex.Words()...)
	return append(l, strings.Fields(":= :: -> ( ) [ ] , ; = < + - * ^ ! |")...)
}

// cut is the tokens of a text as texts.
func cut(t *testing.T, s string) (l []string) {
	t.Helper()
	tokens, _, err := lex.Tokens(s)
	if err != api.OK {
		t.Fatalf("%q is no tokens", s)
	}
	for i, x := range tokens[:len(tokens)-1] {
		l = append(l, strings.TrimRight(s[x.At:tokens[i+1].At], " "))
	}
	return l
}

// joined is l with some of it, from i to k, taken out, and put in its place.
func joined(l []string, i, k int, put ...string) string {
	all := append(append(append([]string{}, l[:i]...), put...), l[k:]...)
	return strings.Join(all, " ")
}

func TestATokenLess(t *testing.T) {
	for _, x := range fits {
		l := cut(t, x[0])
		for i := range l {
			wantExpected(t, joined(l, i, i+1))
			wantExpected(t, joined(l, i, len(l)))
		}
	}
}

func TestATokenMore(t *testing.T) {
	for _, x := range fits {
		l := cut(t, x[0])
		for i := range len(l) + 1 {
			for _, w := range pieces() {
				wantExpected(t, joined(l, i, i, w))
			}
		}
	}
}

func TestATokenTurned(t *testing.T) {
	for _, x := range fits {
		l := cut(t, x[0])
		for i := range l {
			for _, w := range pieces() {
				wantExpected(t, joined(l, i, i+1, w))
			}
			if i > 0 {
				wantExpected(t, joined(l, i-1, i+1, l[i], l[i-1]))
			}
		}
	}
}

func TestEveryFewTokens(t *testing.T) {
	for _, a := range pieces() {
		wantExpected(t, a)
		for _, b := range pieces() {
			wantExpected(t, a+" "+b)
			wantExpected(t, "( "+a+" "+b+" )")
			wantExpected(t, "a "+a+" "+b+" c")
		}
	}
}

// A string is a string, whatever word or sign it has.
func TestStringsOfWords(t *testing.T) {
	for _, w := range pieces()[3:] {
		s := `"` + w + `"`
		wantNode(t, s, s)
		wantNode(t, "a "+s+" b", "(app (app a "+s+") b)")
		wantNode(t, "("+s+", "+s+")", "(pair "+s+" "+s+")")
		wantNode(t, "raise "+s, "(raise "+s+")")
	}
	for _, x := range fits {
		l := cut(t, x[0])
		for i, w := range l {
			if w[0] != '"' {
				wantExpected(t, joined(l, i, i+1, `"`+w+`"`))
			}
		}
	}
}

func TestTheLexersErrors(t *testing.T) {
	for _, x := range []struct {
		s     string
		place int
	}{
		{"?", 0}, {"a ? b", 2}, {") ?", 2}, {"let ) in ?", 9}, {"a b \r", 4}, {"A", 0}, {"a \"b", 2}, {"( \"", 2},
		{"( abcdefghijklm", 2}, {") 01", 2}, {"| 1234567890123456789", 2}, {"(,) \"" + strings.Repeat("x", api.MaxStr+1) + "\"", 4},
		{": ", 0}, {"a : b", 2}, {"a > b", 2}, {"é", 0}, {"a \x00", 2},
		{strings.Repeat("(", api.MaxDepth) + "?", api.MaxDepth}, {strings.Repeat("!", api.MaxDepth) + "a \x7f", api.MaxDepth + 2},
	} {
		wantErr(t, x.s, x.place, api.ErrForm)
	}
}

func TestLongestText(t *testing.T) {
	full := strings.Repeat("a+", api.MaxText/2-1) + "a "
	wantOK(t, full)
	wantOK(t, strings.Repeat(" ", api.MaxText-1)+"a")
	wantErr(t, strings.Repeat(" ", api.MaxText), api.MaxText, api.ErrForm)
	wantErr(t, full[:api.MaxText-1]+")", api.MaxText-1, api.ErrForm)
	for _, s := range []string{full + " ", full + "?", full + ")", "?" + full, ")" + full, strings.Repeat("(", api.MaxText+1), strings.Repeat(" ", api.MaxText+1), strings.Repeat("a", 1<<20)} {
		wantErr(t, s, 0, api.ErrLimit)
	}
}

func wantOK(t *testing.T, s string) {
	t.Helper()
	if n, at, err := Parse(s); err != api.OK || at != len(s) || isEmpty(n) {
		t.Errorf("%q: %s %d %d", few(s), few(say(n)), at, err)
	}
	wantExpected(t, s)
}

// way is what makes an expr one deeper: what stands ahead of it, and behind it;
// first is where, in what stands ahead, the first thing begins that is as deep:
// the expr itself, if that is its end.
type way struct {
	ahead, behind string
	first         int
}

// ways is all of them, read from texts with a @ there and a _ for the expr.
func ways() (l []way) {
	for _, s := range []string{
		"let x = @_ in a", "let x = @a in _", "let rec f x = @_ in a", "let rec f x = @a in _", "fun x -> @_",
		"if @_ then a else b", "if @a then _ else b", "if @a then b else _",
		"match @_ with [] -> a | x :: y -> b", "match @a with [] -> _ | x :: y -> b", "match @a with [] -> b | x :: y -> _",
		"try @_ with x -> a", "try @a with x -> _",
		"a; @_", "a + b := c :: d; @_",
		"(@_)", "( @_ )", "(@_, a)", "(@a, _)",
		"a (@_) b", "a * b + (@_) * c", "raise (@_)", "fst (@_)", "link a (@_)", "link (@_) a", "a = b :: (@_) :: c", "(@_) := a",
	} {
		first := strings.Index(s, "@")
		ahead, behind, _ := strings.Cut(strings.Replace(s, "@", "", 1), "_")
		l = append(l, way{ahead, behind, first})
	}
	return l
}

// nest is the way n times, in one another, around core, and where the first
// thing begins that is n deep.
func nest(w way, n int, core string) (s string, place int) {
	ahead := strings.Repeat(w.ahead, n)
	return ahead + core + strings.Repeat(w.behind, n), len(ahead) - len(w.ahead) + w.first
}

const deepest = api.MaxDepth - 1

func TestDepthByEachWay(t *testing.T) {
	for _, w := range ways() {
		s, place := nest(w, deepest, "a")
		wantOK(t, s)
		s, _ = nest(w, api.MaxDepth, "a")
		wantErr(t, s, place+len(w.ahead), api.ErrDeep)
		s, _ = nest(w, api.MaxDepth+1, "a")
		wantErr(t, s, place+len(w.ahead), api.ErrDeep)
	}
}

// An atom is as deep as its expr, and each ! makes it one deeper, wherever an
// atom stands.
func TestDepthByGets(t *testing.T) {
	gets := strings.Repeat("!", deepest)
	for _, ahead := range []string{"", "  ", "a ", "a b ", "raise ", "link ", "link a ", "fst ", "print ", "a * ", "a + ", "a - ", "a ^ ", "a :: ", "a = ", "a < ", "a := ", gets + "a ", gets + "a * "} {
		behind := ""
		if ahead == "link " {
			behind = " a"
		}
		for _, atom := range []string{"a", "1", "true", "false", `"s"`, "()", "[]"} {
			wantOK(t, ahead+gets+atom+behind)
			wantErr(t, ahead+gets+"!"+atom+behind, len(ahead)+api.MaxDepth, api.ErrDeep)
			wantErr(t, ahead+gets+"!!"+atom+behind, len(ahead)+api.MaxDepth, api.ErrDeep)
			wantErr(t, ahead+gets+"! "+atom+behind, len(ahead)+api.MaxDepth+1, api.ErrDeep)
		}
		wantErr(t, ahead+gets+"(a)"+behind, len(ahead)+api.MaxDepth, api.ErrDeep)
		wantOK(t, ahead+gets[1:]+"(a)"+behind)
		for _, rest := range []string{"", ")", "in", "let x = a in b", "fst a", "+", "] ] ]"} {
			wantErr(t, ahead+gets+rest, len(ahead)+deepest, api.ErrForm)
			wantErr(t, ahead+gets+"!"+rest, len(ahead)+api.MaxDepth, api.ErrDeep)
		}
	}
}

// That it is too deep comes ahead of whether it fits, there and further on; what
// does not fit ahead of it comes first.
func TestTooDeepAndNoFit(t *testing.T) {
	for _, w := range ways() {
		s, place := nest(w, api.MaxDepth, "a")
		for _, rest := range []string{"", "|", "]", ",", "in", "then", "with", "->", "= a", "a )", "a a ]", "(", "()", "[", "1 +", "let", "let x", "fun", "raise", "::", "*", "  ,"} {
			blanks := len(rest) - len(strings.TrimLeft(rest, " "))
			wantErr(t, s[:place]+rest, place+blanks, api.ErrDeep)
			wantErr(t, ") "+s[:place]+rest, 0, api.ErrForm)
			wantErr(t, w.ahead+"] "+s[:place]+rest, len(w.ahead), api.ErrForm)
		}
		s, place = nest(w, deepest, "]")
		wantErr(t, s, place-w.first+len(w.ahead), api.ErrForm)
		wantErr(t, s[:place], place, api.ErrForm)
		s, place = nest(w, deepest, "raise raise")
		wantErr(t, s, place-w.first+len(w.ahead)+6, api.ErrForm)
	}
}

func TestUnitIsNotDeeper(t *testing.T) {
	open, shut := strings.Repeat("(", api.MaxDepth), strings.Repeat(")", api.MaxDepth)
	wantNode(t, open+shut, "()")
	wantErr(t, open+")", api.MaxDepth+1, api.ErrForm)
	wantErr(t, open+" "+shut+")", 2*api.MaxDepth+1, api.ErrForm)
	wantErr(t, "("+open+shut+")", api.MaxDepth, api.ErrDeep)
	wantErr(t, open, api.MaxDepth, api.ErrDeep)
	wantErr(t, open+"  ", api.MaxDepth+2, api.ErrDeep)
	wantErr(t, open+",", api.MaxDepth, api.ErrDeep)
	gets := strings.Repeat("!", deepest)
	wantOK(t, gets+"()")
	wantErr(t, gets+"(,", api.MaxDepth, api.ErrDeep)
}

// Each of two ways, one in the other, so that all of them count for all.
func TestDepthByTwoWays(t *testing.T) {
	for _, x := range ways() {
		for i, y := range append(ways(), way{"!", "", 1}) {
			outer := 1 + i%(deepest-1)
			inner, _ := nest(y, deepest-outer, "a")
			s, _ := nest(x, outer, inner)
			wantAnswer(t, s, len(s), api.OK)
			inner, place := nest(y, api.MaxDepth-outer, "a")
			s, _ = nest(x, outer, inner)
			wantAnswer(t, s, outer*len(x.ahead)+place, api.ErrDeep)
		}
		// One in a get's parentheses is two deeper.
		for _, n := range []int{1, 2, deepest / 2} {
			inner, _ := nest(x, deepest-2*n, "a")
			s, _ := nest(way{"!(", ")", 2}, n, inner)
			wantAnswer(t, s, len(s), api.OK)
			inner, place := nest(x, api.MaxDepth-2*n, "a")
			s, _ = nest(way{"!(", ")", 2}, n, inner)
			wantAnswer(t, s, 2*n+place, api.ErrDeep)
		}
	}
}

func wantAnswer(t *testing.T, s string, place int, want api.Errno) {
	t.Helper()
	if n, at, err := Parse(s); at != place || err != want || isEmpty(n) != (err != api.OK) {
		t.Errorf("%q: %s %d %d, want %d %d", few(s), few(say(n)), at, err, place, want)
	}
}

// What stands beside is not deeper, and a depth is over where its part ends.
func TestWhatIsNotDeeper(t *testing.T) {
	for _, x := range []string{"a + ", "a - ", "a ^ ", "a * ", "a :: ", "a ", "!a ", "(a) ", "() ", "a + (b) * ", "!(!a) ", "(a, b) :: ", "fst (a) + ", "[] :: "} {
		wantOK(t, strings.Repeat(x, 120)+"a")
	}
	wantOK(t, strings.Repeat("a::", 666)+"a")
	deep := strings.Repeat("(", deepest) + "a" + strings.Repeat(")", deepest)
	gets := strings.Repeat("!", deepest) + "a"
	wantOK(t, deep+" "+deep+" + "+deep+" :: "+deep+" := "+deep)
	wantOK(t, gets+gets+" * "+gets+" = "+gets)
	wantOK(t, deep+" "+gets+deep+gets)
	wantErr(t, deep+"; "+deep, len(deep)+2+deepest, api.ErrDeep)
	wantErr(t, gets+"; "+gets, len(gets)+2+deepest, api.ErrDeep)
	wantErr(t, "("+gets[1:]+", "+gets+")", len(gets)+2+deepest, api.ErrDeep)
	less := deep[1 : len(deep)-1]
	wantOK(t, "("+less+", "+less+")")
	wantOK(t, "if "+less+" then "+less+" else "+less)
	wantOK(t, "let x = "+less+" in "+less)
	wantOK(t, "match "+less+" with [] -> "+less+" | x :: y -> "+less)
	wantOK(t, "try "+less+" with x -> "+less)
}

// places is texts with a @ ahead of the token where the Op's node is, which is
// the outermost.
var places = [][2]string{
	{"int", "@12"}, {"int", "(@12)"}, {"bool", "@true"}, {"bool", "@false"}, {"unit", "@( )"}, {"unit", "( @( ) )"}, {"nil", "@[ ]"}, {"nil", "( @[ ] )"}, {"str", `@"a"`}, {"var", "@a"}, {"var", "( ( @a ) )"},
	{"get", "@! a"}, {"get", "@! ! a"}, {"get", "( @! a )"}, {"pair", "@( a , b )"}, {"pair", "( @( a , b ) )"}, {"pair", "@( ( a , b ) , c )"},
	{"fun", "@fun x -> a"}, {"fun", "( @fun x -> a )"}, {"let", "@let x = a in b"}, {"let", "( @let x = a in b )"}, {"rec", "@let rec f x = a in b"}, {"rec", "( @let rec f x = a in b )"}, {"if", "@if a then b else c"}, {"if", "( @if a then b else c )"}, {"match", "@match a with [ ] -> b | x :: y -> c"}, {"match", "( @match a with [ ] -> b | x :: y -> c )"}, {"try", "@try a with x -> b"}, {"try", "( @try a with x -> b )"},
	{"seq", "a @; b"}, {"seq", "a @; b ; c"}, {"seq", "( a ) @; ( b ; c )"}, {"seq", "( a @; b )"}, {"set", "a @:= b"}, {"set", "( a ) @:= ( b )"}, {"eq", "a @= b"}, {"eq", "( a = b ) @= ( a = b )"}, {"less", "a @< b"}, {"less", "( a @< b )"}, {"cons", "a @:: b"}, {"cons", "a @:: b :: c"}, {"cons", "( a :: b ) @:: c"},
	{"add", "a @+ b"}, {"add", "a + b @+ c"}, {"add", "a - b @+ c * d"}, {"add", "a @+ ( b + c )"}, {"sub", "a @- b"}, {"sub", "a - b @- c"}, {"cat", "a @^ b"}, {"cat", "a ^ b @^ c"}, {"mul", "a @* b"}, {"mul", "a * b @* c"},
	{"app", "a @b"}, {"app", "a b @c"}, {"app", "a @( b )"}, {"app", "a @( b c )"}, {"app", "( a b ) @( ( c ) )"}, {"app", "a @! b"}, {"app", "a @( )"}, {"app", "a @[ ]"}, {"app", "( a @b )"}, {"app", "a @( b , c )"}, {"app", "a b @( fun x -> c )"},
	{"raise", "@raise a"}, {"raise", "( @raise ( a ) )"}, {"link", "@link a b"}, {"link", "( @link ( a ) ( b ) )"}, {"fst", "@fst a"}, {"snd", "@snd ( a )"}, {"ref", "@ref a"}, {"cell", "@cell a"}, {"tag", "@tag a"}, {"links", "@links a"}, {"size", "@size a"}, {"print", "( @print a )"},
}

func TestPlaceOfEachOp(t *testing.T) {
	seen := map[string]bool{}
	for _, x := range places {
		seen[x[0]] = true
		for _, blank := range []string{" ", "  ", "\n\t "} {
			for _, ahead := range []string{"", " ", "\t\t\n"} {
				marked := ahead + strings.ReplaceAll(x[1], " ", blank) + ahead
				want := strings.Index(marked, "@")
				s := strings.Replace(marked, "@", "", 1)
				n, _, err := Parse(s)
				if err != api.OK || n.Op != x[0] || n.At != want {
					t.Errorf("%q: %s at %d, want %s at %d", s, n.Op, n.At, x[0], want)
				}
				wantExpected(t, s)
			}
		}
	}
	if len(seen) != 34 {
		t.Errorf("%d Ops", len(seen))
	}
}

// All nodes of one text, further down too.
func TestPlacesFurtherDown(t *testing.T) {
	n, _, _ := Parse(" let  f = fun x -> (x + 1 , ! y) in  f (2) ; [ ]")
	leaf := func(op, name string, v int64, at int) api.Node { return api.Node{Op: op, Name: name, N: v, At: at} }
	sum := api.Node{Op: "add", At: 22, Kids: []api.Node{leaf("var", "x", 0, 20), leaf("int", "", 1, 24)}}
	get := api.Node{Op: "get", At: 28, Kids: []api.Node{leaf("var", "y", 0, 30)}}
	pair := api.Node{Op: "pair", At: 19, Kids: []api.Node{sum, get}}
	fun := api.Node{Op: "fun", Name: "x", At: 10, Kids: []api.Node{pair}}
	app := api.Node{Op: "app", At: 39, Kids: []api.Node{leaf("var", "f", 0, 37), leaf("int", "", 2, 40)}}
	seq := api.Node{Op: "seq", At: 43, Kids: []api.Node{app, leaf("nil", "", 0, 45)}}
	want := api.Node{Op: "let", Name: "f", At: 1, Kids: []api.Node{fun, seq}}
	if !same(n, want) {
		t.Errorf("%v, want %v", n, want)
	}
}

func TestManyNodes(t *testing.T) {
	// 667 gets of vars, and an app between each two.
	full := strings.Repeat("!a", 667)
	for i, s := range []string{full, "!" + full, full + " a", strings.Repeat("!a", api.MaxText/2)} {
		n, at, err := Parse(s)
		if err != api.OK || at != len(s) || (tree.Size(n) > api.MaxNodes) != (i > 0) || tree.Is(n) != (i == 0) {
			t.Errorf("%d: %d nodes, %d %d, Is %v", i, tree.Size(n), at, err, tree.Is(n))
		}
	}
	wantExpected(t, full)
	wantExpected(t, "!"+full)
}

// overwritten turns all of n, and the spare room of its lists.
func overwritten(n *api.Node) {
	for i := range n.Kids {
		overwritten(&n.Kids[i])
	}
	kids := n.Kids[:cap(n.Kids)]
	for i := range kids {
		kids[i] = api.Node{Op: "turned", Name: "turned", N: -1, At: -1}
	}
}

func TestAnswersShareNoMemory(t *testing.T) {
	for _, x := range fits {
		a, _, _ := Parse(x[0])
		b, _, _ := Parse(x[0])
		overwritten(&a)
		c, _, _ := Parse(x[0])
		if say(b) != x[1] || say(c) != x[1] {
			t.Errorf("%q: %s and %s, want %s", x[0], say(b), say(c), x[1])
		}
		if !reflect.DeepEqual(b, c) {
			t.Errorf("%q: two answers", x[0])
		}
	}
}

// lists is each node's kids, with their spare room.
func lists(n api.Node) [][]api.Node {
	all := [][]api.Node{n.Kids[:cap(n.Kids)]}
	for _, k := range n.Kids {
		all = append(all, lists(k)...)
	}
	return all
}

func TestListsOfOneAnswerShareNoMemory(t *testing.T) {
	for _, x := range fits {
		n, _, _ := Parse(x[0])
		seen := map[*api.Node]bool{}
		for _, l := range lists(n) {
			for i := range l {
				if seen[&l[i]] {
					t.Errorf("%q: two lists share a place", x[0])
				}
				seen[&l[i]] = true
			}
		}
	}
}

// The answer to a text is the same whatever was parsed before it, a text that
// errs too.
func TestNothingIsKept(t *testing.T) {
	for _, x := range fits {
		for _, before := range []string{"?", "(", strings.Repeat("(", api.MaxDepth+1), x[0] + ")", "let x = a in b"} {
			Parse(before)
			if n, _, err := Parse(x[0]); err != api.OK || say(n) != x[1] {
				t.Errorf("%q after %q: %s", x[0], few(before), say(n))
			}
		}
	}
}

// derive is random tokens that the grammar makes of x, of few parts once room
// is used up.
func derive(r *rand.Rand, x *symbol, room *int) (l []string) {
	if len(x.rules) == 0 {
		return []string{spelt(r, x.name)}
	}
	k := r.Intn(len(x.rules))
	*room--
	if *room < 0 && (x.name == "expr" || x.name == "app") {
		k = len(x.rules) - 1
	} else if *room < 0 {
		k = 0
	}
	for _, part := range theRules.all[x.rules[k]].body {
		l = append(l, derive(r, part, room)...)
	}
	return l
}

// spelt is a token of that kind.
func spelt(r *rand.Rand, kind string) string {
	switch kind {
	case "name":
		return []string{"a", "b", "x'", "y_1", "lets"}[r.Intn(5)]
	case "number":
		return strconv.Itoa(r.Intn(1000))
	case "string":
		return []string{`""`, `"in"`, `"( a"`}[r.Intn(3)]
	case "End":
		return ""
	}
	return kind[1 : len(kind)-1]
}

func TestRandomTexts(t *testing.T) {
	r := rand.New(rand.NewSource(6))
	all, fit := pieces(), 0
	for range 1200 {
		room := r.Intn(120)
		l := derive(r, theRules.byName["program"], &room)
		s := strings.Join(l, []string{" ", "  ", "\n"}[r.Intn(3)])
		wantExpected(t, s)
		if _, _, err := Parse(s); err == api.OK {
			fit++
		}
		i := r.Intn(len(l))
		l[i] = all[r.Intn(len(all))]
		wantExpected(t, strings.Join(l, " "))
		wantExpected(t, s[:r.Intn(len(s)+1)])
	}
	if fit < 400 {
		t.Errorf("of 1200 texts only %d fit", fit)
	}
}

// Texts of any bytes and of any tokens: every call ends.
func TestRandomBytes(t *testing.T) {
	r := rand.New(rand.NewSource(66))
	all := pieces()
	for range 3000 {
		b := make([]byte, r.Intn(40))
		r.Read(b)
		wantExpected(t, string(b))
		l := make([]string, r.Intn(12))
		for i := range l {
			l[i] = all[r.Intn(len(all))]
		}
		wantExpected(t, strings.Join(l, " "))
	}
}

// Long rows of one token, or two, to the end of what a text may have.
func TestRowsOfTokens(t *testing.T) {
	for _, a := range pieces() {
		for _, b := range []string{"", "(", "a", "!", ";", "let x =", "raise"} {
			row := a + " " + b + " "
			wantExpected(t, strings.Repeat(row, api.MaxText/len(row)))
		}
	}
}

func FuzzParse(f *testing.F) {
	for _, x := range fits {
		f.Add(x[0])
	}
	for _, w := range ways() {
		s, _ := nest(w, api.MaxDepth, "a")
		f.Add(s)
	}
	f.Fuzz(func(t *testing.T, s string) { wantExpected(t, s) })
}
