package infer

import (
	"regexp"
	"strconv"
	"strings"

	"emissary/api"
	"emissary/typ"
)

// A second working-out of what Of and Fits answer. It has no schemes: where a
// name is for all, the expression that it stands for is asked again, in its own
// env, each time that the name comes.

// plainRules is the document's words on each Op that binds no name.
var plainRules = map[string]string{
	"int": "int", "bool": "bool", "unit": "unit", "str": "string", "nil": "v list",
	"if":    "a bool, b c: b",
	"raise": "a int: v",
	"add":   "a int, b int: int", "sub": "a int, b int: int", "mul": "a int, b int: int",
	"eq": "a int, b int: bool", "less": "a int, b int: bool",
	"cat":  "a string, b string: string",
	"cons": "b is a list: b",
	"pair": "a * b",
	"seq":  "b",
	"set":  "a is b ref: unit",
	"get":  "a is v ref: v",
	"app":  "a is b -> v: v",
	"fst":  "a is v * w: v", "snd": "a is v * w: w",
	"ref":   "a ref",
	"cell":  "a int: cell",
	"tag":   "a cell: int",
	"links": "a cell: cell list",
	"link":  "a cell, b cell list: unit",
	"size":  "a string: int",
	"print": "a string: unit",
}

// kind is a type of which more may yet be said.
type kind struct {
	op   string // nothing, while nothing is said
	kids []*kind
	is   *kind
}

func made(op string, kids ...*kind) *kind { return &kind{op: op, kids: kids} }

func (k *kind) end() *kind {
	for k.is != nil {
		k = k.is
	}
	return k
}

func (k *kind) has(other *kind) bool {
	k = k.end()
	for _, x := range k.kids {
		if x.has(other) {
			return true
		}
	}
	return k == other
}

// size is how many nodes k has, or limit, if it has more.
func (k *kind) size(limit int) int {
	n := 1
	for _, x := range k.end().kids {
		if n < limit {
			n += x.size(limit - n)
		}
	}
	return n
}

// text is k's, its vars numbered as they come.
func (k *kind) text(vars map[*kind]int) string {
	k = k.end()
	var l []string
	for _, x := range k.kids {
		l = append(l, x.text(vars))
	}
	switch k.op {
	case "":
		if _, came := vars[k]; !came {
			vars[k] = len(vars)
		}
		return "'" + strconv.Itoa(vars[k])
	case "*", "->":
		return "(" + l[0] + " " + k.op + " " + l[1] + ")"
	}
	return strings.Join(append(l, k.op), " ")
}

// names is an env: what asks for the type of its last name, and the others.
type names struct {
	name string
	ask  func() *kind
	next *names
}

func (e *names) with(name string, ask func() *kind) *names { return &names{name, ask, e} }

func (e *names) has(name string, k *kind) *names {
	return e.with(name, func() *kind { return k })
}

// refused is an error where it stands; tooMuch is more than is worked out here.
type refused struct {
	at  int
	err api.Errno
}

type tooMuch struct{}

type second struct {
	steps int
	came  []*kind
}

// expected is the type's text, or the error; known is false where the document
// says nothing, or where there is too much to do.
func expected(n api.Node) (text string, r refused, known bool) {
	s := second{}
	defer func() {
		switch x := recover().(type) {
		case refused:
			r = x
			known = s.isSmall()
		case tooMuch:
		case nil:
		default:
			panic(x)
		}
	}()
	k := s.of(n, nil)
	if !s.isSmall() {
		return "", r, false
	}
	return k.text(map[*kind]int{}), r, true
}

// isSmall tells whether no type that came has more than MaxNodes nodes.
func (s *second) isSmall() bool {
	for _, k := range s.came {
		if k.size(api.MaxNodes+1) > api.MaxNodes {
			return false
		}
	}
	return true
}

func (s *second) new(k *kind) *kind {
	s.came = append(s.came, k)
	return k
}

func (s *second) step() {
	s.steps++
	if s.steps > 20_000 {
		panic(tooMuch{})
	}
}

func (s *second) of(n api.Node, e *names) *kind {
	s.step()
	return s.new(s.by(n, e))
}

// by is what the document's rules for n's Op say.
func (s *second) by(n api.Node, e *names) *kind {
	switch n.Op {
	case "var":
		for e != nil && e.name != n.Name {
			e = e.next
		}
		if e == nil {
			panic(refused{n.At, api.ErrName})
		}
		return e.ask()
	case "fun":
		v := s.new(made(""))
		return made("->", v, s.of(n.Kids[0], e.has(n.Name, v)))
	case "let":
		a := s.of(n.Kids[0], e)
		if isValue(n.Kids[0]) {
			return s.of(n.Kids[1], e.with(n.Name, func() *kind { return s.of(n.Kids[0], e) }))
		}
		return s.of(n.Kids[1], e.has(n.Name, a))
	case "rec":
		ask := func() *kind {
			v, w := s.new(made("")), s.new(made(""))
			f := s.new(made("->", v, w))
			s.same(n, s.of(n.Kids[0], e.has(n.Name, f).has(n.Arg, v)), w)
			return f
		}
		ask()
		return s.of(n.Kids[1], e.with(n.Name, ask))
	case "match":
		v := s.new(made(""))
		l := made("list", v)
		s.same(n, s.of(n.Kids[0], e), l)
		b := s.of(n.Kids[1], e)
		s.same(n, b, s.of(n.Kids[2], e.has(n.Name, v).has(n.Arg, l)))
		return b
	case "try":
		a := s.of(n.Kids[0], e)
		s.same(n, a, s.of(n.Kids[1], e.has(n.Name, made("int"))))
		return a
	}
	return s.plain(n, e)
}

func (s *second) plain(n api.Node, e *names) *kind {
	letters := map[string]*kind{"v": s.new(made("")), "w": s.new(made(""))}
	for i, k := range n.Kids {
		letters[string(rune('a'+i))] = s.of(k, e)
	}
	words := plainRules[n.Op]
	i := strings.LastIndex(words, ":")
	if i >= 0 {
		for _, one := range strings.Split(words[:i], ",") {
			f := strings.Fields(one)
			rest := f[1:]
			if rest[0] == "is" {
				rest = rest[1:]
			}
			s.same(n, letters[f[0]], s.new(read(letters, rest)))
		}
	}
	return read(letters, strings.Fields(words[i+1:]))
}

// read is a type as the rules write it.
func read(letters map[string]*kind, f []string) *kind {
	switch {
	case len(f) == 3:
		return made(f[1], read(letters, f[:1]), read(letters, f[2:]))
	case len(f) == 2:
		return made(f[1], read(letters, f[:1]))
	case letters[f[0]] != nil:
		return letters[f[0]]
	}
	return made(f[0])
}

func (s *second) same(n api.Node, a, b *kind) {
	s.step()
	a, b = a.end(), b.end()
	switch {
	case a == b:
		return
	case a.op == "" && !b.has(a):
		a.is = b
		return
	case b.op == "" && !a.has(b):
		b.is = a
		return
	case a.op == "" || b.op == "" || a.op != b.op:
		panic(refused{n.At, api.ErrType})
	}
	for i := range a.kids {
		s.same(n, a.kids[i], b.kids[i])
	}
}

// isValue is as chapter 5 has it.
func isValue(n api.Node) bool {
	for _, k := range n.Kids {
		if n.Op != "fun" && !isValue(k) {
			return false
		}
	}
	return strings.Contains(" int bool unit nil str var fun pair cons ", " "+n.Op+" ")
}

var varLike = regexp.MustCompile(`'[0-9]+`)

// isMadeOf tells whether want is t, its vars replaced: what stands in want
// where t has each of its vars first is put there, and then it must be want.
func isMadeOf(t, want api.Type) bool {
	by := map[string]string{}
	if !findVars(t, want, by) {
		return false
	}
	text := varLike.ReplaceAllStringFunc(typ.Show(t), func(s string) string { return by[s] })
	return text == typ.Show(want)
}

func findVars(t, want api.Type, by map[string]string) bool {
	if t.Op == "var" {
		if _, came := by[typ.Show(t)]; !came {
			by[typ.Show(t)] = typ.Show(want)
		}
		return true
	}
	if len(t.Kids) != len(want.Kids) {
		return false
	}
	for i, k := range t.Kids {
		if !findVars(k, want.Kids[i], by) {
			return false
		}
	}
	return true
}
