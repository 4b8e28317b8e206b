package parse

import (
	"regexp"
	"slices"
	"strconv"
	"strings"

	"emissary/api"
	"emissary/lex"
)

// A second working-out of what Parse answers. Where a text does not fit, or is
// too deep, is told by Earley's way from the document's own grammar, which goes
// through all that a text may be at once; what it is, if it fits, by parting
// the tokens at the sign that binds least.

// grammar is the document's, line by line.
var grammar = [][2]string{
	{"program", `expr End`},
	{"expr", `"let" name "=" expr "in" expr | "let" "rec" name name "=" expr "in" expr
     | "fun" name "->" expr | "if" expr "then" expr "else" expr
     | "match" expr "with" "[" "]" "->" expr "|" name "::" name "->" expr
     | "try" expr "with" name "->" expr | set [ ";" expr ]`},
	{"set", `cmp [ ":=" cmp ]`},
	{"cmp", `cons [ ( "=" | "<" ) cons ]`},
	{"cons", `sum [ "::" cons ]`},
	{"sum", `prod { ( "+" | "-" | "^" ) prod }`},
	{"prod", `app { "*" app }`},
	{"app", `"raise" atom | "link" atom atom | one atom | atom { atom }`},
	{"one", `"fst" | "snd" | "ref" | "cell" | "tag" | "links" | "size" | "print"`},
	{"atom", `number | "true" | "false" | string | name | "!" atom | "(" ")" | "(" expr ")"
     | "(" expr "," expr ")" | "[" "]"`},
}

// symbol is a token as the grammar writes it, or a head: what it may be.
type symbol struct {
	name  string
	rules []int
	empty bool // it may be nothing
}

// rule is one of the things that head may be.
type rule struct {
	head *symbol
	body []*symbol
}

// rules is the grammar with a head of its own for each pair of brackets.
type rules struct {
	all    []rule
	byName map[string]*symbol
}

var theRules = readGrammar()

func readGrammar() *rules {
	r := &rules{byName: map[string]*symbol{}}
	for _, line := range grammar {
		parts := regexp.MustCompile(`"[^"]+"|[A-Za-z]+|[][{}()|]`).FindAllString(line[1], -1)
		r.readAlternatives(r.symbol(line[0]), nil, parts)
	}
	return r
}

func (r *rules) symbol(name string) *symbol {
	if r.byName[name] == nil {
		r.byName[name] = &symbol{name: name}
	}
	return r.byName[name]
}

func (r *rules) add(head *symbol, body []*symbol) {
	head.rules = append(head.rules, len(r.all))
	head.empty = head.empty || len(body) == 0
	r.all = append(r.all, rule{head, body})
}

// readAlternatives adds what head may be, each with first ahead, and is what is
// left behind them.
func (r *rules) readAlternatives(head *symbol, first []*symbol, parts []string) []string {
	body := slices.Clone(first)
	for len(parts) > 0 {
		part := parts[0]
		parts = parts[1:]
		switch part {
		case "]", "}", ")":
			r.add(head, body)
			return parts
		case "|":
			r.add(head, body)
			body = slices.Clone(first)
		case "[", "{", "(":
			inner := r.symbol(head.name + part + strconv.Itoa(len(parts)))
			body = append(body, inner)
			var again []*symbol
			if part == "{" {
				again = []*symbol{inner}
			}
			if part != "(" {
				r.add(inner, nil)
			}
			parts = r.readAlternatives(inner, again, parts)
		default:
			body = append(body, r.symbol(part))
		}
	}
	r.add(head, body)
	return nil
}

// item is a rule of which dot parts are there, from a token on, so deep.
type item struct{ rule, dot, from, deep int32 }

// next is x with one part more.
func (x item) next() item { return item{x.rule, x.dot + 1, x.from, x.deep} }

// part is the next part of x, or nil; and how deep that is.
func (r *rules) part(x item) (*symbol, int32) {
	rule := r.all[x.rule]
	if int(x.dot) == len(rule.body) {
		return nil, 0
	}
	part, head := rule.body[x.dot], rule.head.name
	if part.name == "expr" && head != "program" || part.name == "atom" && head == "atom" {
		return part, x.deep + 1
	}
	return part, x.deep
}

// grown is the items at the last token with all that follows from them, and
// whether something too deep would begin there.
func (r *rules) grown(sights [][]item, seen map[item]bool) (here []item, tooDeep bool) {
	at := len(sights) - 1
	here = sights[at]
	clear(seen)
	add := func(x item) {
		if !seen[x] {
			seen[x] = true
			here = append(here, x)
		}
	}
	for i := 0; i < len(here); i++ {
		x := here[i]
		part, deep := r.part(x)
		switch {
		case part == nil:
			for _, y := range sights[x.from] {
				if part, deep := r.part(y); part == r.all[x.rule].head && deep == x.deep {
					add(y.next())
				}
			}
		case len(part.rules) > 0 && deep == api.MaxDepth:
			tooDeep = true
		default:
			for _, k := range part.rules {
				add(item{int32(k), 0, int32(at), deep})
			}
			if part.empty {
				add(x.next())
			}
		}
	}
	return here, tooDeep
}

// nameOf is a token as the grammar writes it.
func nameOf(t api.Token) string {
	switch t.Kind {
	case api.Name:
		return "name"
	case api.Num:
		return "number"
	case api.Str:
		return "string"
	case api.End:
		return "End"
	}
	return `"` + t.Text + `"`
}

// judge is the first of the tokens that does not fit, or begins what is too
// deep; the number of them and OK, if there is none.
func (r *rules) judge(l []api.Token) (int, api.Errno) {
	sights := [][]item{{{rule: int32(r.byName["program"].rules[0])}}}
	seen := map[item]bool{}
	for i, t := range l {
		here, tooDeep := r.grown(sights, seen)
		sights[i] = here
		want := r.byName[nameOf(t)]
		var next []item
		for _, x := range here {
			if part, _ := r.part(x); part != nil && part == want {
				next = append(next, x.next())
			}
		}
		if len(next) == 0 && tooDeep {
			return i, api.ErrDeep
		}
		if len(next) == 0 {
			return i, api.ErrForm
		}
		sights = append(sights, next)
	}
	return len(l), api.OK
}

func wordOf(t api.Token) string {
	if t.Kind == api.Word {
		return t.Text
	}
	return ""
}

// partner is where want stands that belongs ahead of the first of l: between,
// each of opens has a want or what closes of its own.
func partner(l []api.Token, want, opens, closes string) int {
	open := 0
	for i, t := range l {
		w := " " + wordOf(t) + " "
		switch {
		case open == 0 && w == " "+want+" ":
			return i
		case strings.Contains(opens, w):
			open++
		case strings.Contains(closes, w):
			open--
		}
	}
	panic("no partner")
}

// outside is the places of those signs that stand in no parentheses.
func outside(l []api.Token, signs string) (places []int) {
	open := 0
	for i, t := range l {
		switch w := wordOf(t); {
		case w == "(":
			open++
		case w == ")":
			open--
		case open == 0 && w != "" && strings.Contains(signs, " "+w+" "):
			places = append(places, i)
		}
	}
	return places
}

// exprOf is tokens that fit as an expr.
func exprOf(all []api.Token) api.Node {
	n := api.Node{Op: wordOf(all[0]), At: all[0].At}
	l := all[1:]
	switch n.Op {
	case "let":
		if wordOf(l[0]) == "rec" {
			n.Op, n.Name, n.Arg, l = "rec", l[1].Text, l[2].Text, l[4:]
		} else {
			n.Name, l = l[0].Text, l[2:]
		}
		i := partner(l, "in", " let ", " in ")
		n.Kids = []api.Node{exprOf(l[:i]), exprOf(l[i+1:])}
	case "fun":
		n.Name = l[0].Text
		n.Kids = []api.Node{exprOf(l[2:])}
	case "if":
		i := partner(l, "then", " if ", " else ")
		k := i + 1 + partner(l[i+1:], "else", " if ", " else ")
		n.Kids = []api.Node{exprOf(l[:i]), exprOf(l[i+1 : k]), exprOf(l[k+1:])}
	case "match":
		i := partner(l, "with", " match try ", " with ")
		k := i + 4 + partner(l[i+4:], "|", " match ", " | ")
		n.Name, n.Arg = l[k+1].Text, l[k+3].Text
		n.Kids = []api.Node{exprOf(l[:i]), exprOf(l[i+4 : k]), exprOf(l[k+5:])}
	case "try":
		i := partner(l, "with", " match try ", " with ")
		n.Name = l[i+1].Text
		n.Kids = []api.Node{exprOf(l[:i]), exprOf(l[i+3:])}
	default:
		if places := outside(all, " ; "); len(places) > 0 {
			i := places[0]
			return api.Node{Op: "seq", At: all[i].At, Kids: []api.Node{setOf(all[:i]), exprOf(all[i+1:])}}
		}
		return setOf(all)
	}
	return n
}

// opOfSign is the Op of each sign with two sides, ; aside.
var opOfSign = map[string]string{
	":=": "set", "=": "eq", "<": "less", "::": "cons", "+": "add", "-": "sub", "^": "cat", "*": "mul",
}

// setOf is tokens that fit as a set, or as what binds closer: those that bind
// least part it, at the last of them where the left ones come first.
func setOf(l []api.Token) api.Node {
	for _, signs := range []string{" := ", " = < ", " :: ", " + - ^ ", " * "} {
		places := outside(l, signs)
		if len(places) == 0 {
			continue
		}
		i := places[0]
		if signs == " + - ^ " || signs == " * " {
			i = places[len(places)-1]
		}
		return api.Node{Op: opOfSign[l[i].Text], At: l[i].At, Kids: []api.Node{setOf(l[:i]), setOf(l[i+1:])}}
	}
	return appOf(l)
}

const takesAtoms = " raise link fst snd ref cell tag links size print "

func appOf(l []api.Token) api.Node {
	if w := wordOf(l[0]); w != "" && strings.Contains(takesAtoms, " "+w+" ") {
		n := api.Node{Op: w, At: l[0].At}
		for _, a := range atomsOf(l[1:]) {
			n.Kids = append(n.Kids, atomOf(a))
		}
		return n
	}
	atoms := atomsOf(l)
	n := atomOf(atoms[0])
	for _, a := range atoms[1:] {
		n = api.Node{Op: "app", At: a[0].At, Kids: []api.Node{n, atomOf(a)}}
	}
	return n
}

// atomsOf is tokens that fit as atoms, atom by atom.
func atomsOf(l []api.Token) (atoms [][]api.Token) {
	for len(l) > 0 {
		i := 0
		for wordOf(l[i]) == "!" {
			i++
		}
		switch wordOf(l[i]) {
		case "(":
			i += 1 + partner(l[i+1:], ")", " ( ", " ) ")
		case "[":
			i++
		}
		atoms = append(atoms, l[:i+1])
		l = l[i+1:]
	}
	return atoms
}

func atomOf(l []api.Token) api.Node {
	t := l[0]
	n := api.Node{At: t.At}
	switch nameOf(t) {
	case "number":
		n.Op, n.N = "int", t.N
	case "string":
		n.Op, n.Name = "str", t.Text
	case "name":
		n.Op, n.Name = "var", t.Text
	case `"true"`:
		n.Op, n.N = "bool", 1
	case `"false"`:
		n.Op = "bool"
	case `"["`:
		n.Op = "nil"
	case `"!"`:
		n.Op, n.Kids = "get", []api.Node{atomOf(l[1:])}
	case `"("`:
		return parensOf(n, l[1:len(l)-1])
	}
	return n
}

func parensOf(n api.Node, l []api.Token) api.Node {
	if len(l) == 0 {
		n.Op = "unit"
		return n
	}
	places := outside(l, " , ")
	if len(places) == 0 {
		return exprOf(l)
	}
	n.Op, n.Kids = "pair", []api.Node{exprOf(l[:places[0]]), exprOf(l[places[0]+1:])}
	return n
}

// expected is what the document asks of Parse(s).
func expected(s string) (api.Node, int, api.Errno) {
	l, at, err := lex.Tokens(s)
	if err != api.OK {
		return api.Node{}, at, err
	}
	i, err := theRules.judge(l)
	if err != api.OK {
		return api.Node{}, l[i].At, err
	}
	return exprOf(l[:len(l)-1]), len(s), api.OK
}
