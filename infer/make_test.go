package infer

import (
	"math/rand"
	"slices"

	"emissary/api"
)

// Expressions that tests make: all the small ones, and some by what a pick
// picks, as a random source does, or the bytes of a fuzzer.

func ty(op string, kids ...api.Type) api.Type { return api.Type{Op: op, Kids: kids} }

func variable(n int) api.Type { return api.Type{Op: "var", N: n} }

func list(x api.Type) api.Type { return ty("list", x) }

func pair(a, b api.Type) api.Type { return ty("pair", a, b) }

func fun(a, b api.Type) api.Type { return ty("fun", a, b) }

var num, truth, unit, text, cell = ty("int"), ty("bool"), ty("unit"), ty("string"), ty("cell")

func node(op string, kids ...api.Node) api.Node { return api.Node{Op: op, Kids: kids} }

func named(op, name string, kids ...api.Node) api.Node {
	return api.Node{Op: op, Name: name, Kids: kids}
}

func both(op, name, arg string, kids ...api.Node) api.Node {
	return api.Node{Op: op, Name: name, Arg: arg, Kids: kids}
}

func integer(n int64) api.Node { return api.Node{Op: "int", N: n} }

func word(name string) api.Node { return named("var", name) }

// ops is each Op, with how many kids and names it has.
var ops = []struct {
	op          string
	kids, names int
}{
	{"int", 0, 0}, {"bool", 0, 0}, {"unit", 0, 0}, {"nil", 0, 0}, {"str", 0, 0}, {"var", 0, 1},
	{"fun", 1, 1}, {"raise", 1, 0}, {"get", 1, 0}, {"fst", 1, 0}, {"snd", 1, 0}, {"ref", 1, 0}, {"cell", 1, 0}, {"tag", 1, 0}, {"links", 1, 0}, {"size", 1, 0}, {"print", 1, 0},
	{"let", 2, 1}, {"rec", 2, 2}, {"try", 2, 1},
	{"seq", 2, 0}, {"set", 2, 0}, {"eq", 2, 0}, {"less", 2, 0}, {"cons", 2, 0}, {"add", 2, 0}, {"sub", 2, 0}, {"cat", 2, 0}, {"mul", 2, 0}, {"app", 2, 0}, {"pair", 2, 0}, {"link", 2, 0},
	{"if", 3, 0}, {"match", 3, 2},
}

// placedIn is n, each node's At its number from the root on, and the number
// behind the last one.
func placedIn(n api.Node, first int) (api.Node, int) {
	n.At = first
	kids := n.Kids
	n.Kids, first = nil, first+1
	for _, k := range kids {
		k, first = placedIn(k, first)
		n.Kids = append(n.Kids, k)
	}
	return n, first
}

func eachPlaced(n api.Node) api.Node {
	n, _ = placedIn(n, 1)
	return n
}

// small calls with each expression of those Ops and names that has at most that
// many nodes, without their places.
func small(most int, names, of []string, call func(n api.Node)) {
	sizes := make([][]api.Node, most+1)
	for size := 1; size <= most; size++ {
		for _, o := range ops {
			if !slices.Contains(of, o.op) {
				continue
			}
			for _, kids := range rows(o.kids, size-1, sizes) {
				for _, n := range namings(node(o.op, kids...), o.names, names) {
					call(n)
					if size < most {
						sizes[size] = append(sizes[size], n)
					}
				}
			}
		}
	}
}

// rows is each row of so many kids that have so many nodes together.
func rows(kids, size int, sizes [][]api.Node) (all [][]api.Node) {
	if kids == 0 {
		if size == 0 {
			return [][]api.Node{nil}
		}
		return nil
	}
	for first := 1; first <= size; first++ {
		for _, rest := range rows(kids-1, size-first, sizes) {
			for _, k := range sizes[first] {
				all = append(all, append([]api.Node{k}, rest...))
			}
		}
	}
	return all
}

// namings is n with each of names at each place where it has one.
func namings(n api.Node, places int, names []string) (all []api.Node) {
	if places == 0 {
		return []api.Node{n}
	}
	for _, n.Name = range names {
		if places == 1 {
			all = append(all, n)
			continue
		}
		for _, n.Arg = range names {
			all = append(all, n)
		}
	}
	return all
}

// pick is one of 0 to n-1.
type pick func(n int) int

func randomly(seed int64) pick { return rand.New(rand.NewSource(seed)).Intn }

// byBytes picks by b, and 0 behind its end.
func byBytes(b []byte) pick {
	return func(n int) int {
		if len(b) == 0 {
			return 0
		}
		c := int(b[0])
		b = b[1:]
		return c % n
	}
}

// any is an expression of about room nodes at most, of names that are mostly
// bound; what types it has is not asked.
func (p pick) any(bound []string, room int) api.Node {
	o := ops[p(len(ops))]
	if room <= o.kids {
		o = ops[p(6)]
	}
	n := api.Node{Op: o.op}
	if o.op == "var" {
		n.Name = p.name(bound)
		return n
	}
	if o.names > 0 {
		n.Name = []string{"x", "y", "z"}[p(3)]
		bound = append(slices.Clip(bound), n.Name)
	}
	if o.names > 1 {
		n.Arg = []string{"x", "y", "z"}[p(3)]
		bound = append(slices.Clip(bound), n.Arg)
	}
	for range o.kids {
		n.Kids = append(n.Kids, p.any(bound, (room-1)/o.kids))
	}
	return n
}

func (p pick) name(bound []string) string {
	if len(bound) == 0 || p(40) == 0 {
		return "w"
	}
	return bound[p(len(bound))]
}

// typed is a name with its type; vars in it stand for any types.
type typed struct {
	name string
	t    api.Type
}

// generals is values whose types have vars.
var generals = []struct {
	n api.Node
	t api.Type
}{
	{node("nil"), list(variable(0))},
	{named("fun", "x", word("x")), fun(variable(0), variable(0))},
	{named("fun", "x", named("fun", "y", word("x"))), fun(variable(0), fun(variable(1), variable(0)))},
	{named("fun", "x", node("ref", word("x"))), fun(variable(0), ty("ref", variable(0)))},
	{named("fun", "p", node("pair", node("snd", word("p")), node("fst", word("p")))), fun(pair(variable(0), variable(1)), pair(variable(1), variable(0)))},
	{named("fun", "f", named("fun", "x", node("app", word("f"), node("app", word("f"), word("x"))))), fun(fun(variable(0), variable(0)), fun(variable(0), variable(0)))},
	{named("fun", "x", node("raise", integer(1))), fun(variable(0), variable(1))},
}

// someType is one without vars.
func (p pick) someType(room int) api.Type {
	leaves := []api.Type{num, truth, unit, text, cell}
	switch k := p(9); {
	case k < 5 || room < 2:
		return leaves[p(5)]
	case k < 7:
		return ty([]string{"list", "ref"}[k-5], p.someType(room-1))
	default:
		return ty([]string{"pair", "fun"}[k-7], p.someType(room/2), p.someType(room/2))
	}
}

// of is an expression of type t, or of a more general one, of some room nodes.
func (p pick) of(t api.Type, in []typed, room int) api.Node {
	in = slices.Clip(in)
	if room < 2 {
		return p.leaf(t, in)
	}
	room--
	u := p.someType(3)
	name, arg := []string{"x", "y", "f", "g"}[p(4)], []string{"x", "y", "g", "h"}[p(4)]
	switch p(16) {
	case 0:
		return node("if", p.of(truth, in, room/3), p.of(t, in, room/3), p.of(t, in, room/3))
	case 1:
		return named("let", name, p.of(u, in, room/2), p.of(t, with(in, typed{name, u}), room/2))
	case 2:
		g := generals[p(len(generals))]
		return named("let", name, g.n, p.of(t, with(in, typed{name, g.t}), room-3))
	case 3:
		v := p.someType(3)
		f := with(in, typed{name, fun(u, v)})
		return both("rec", name, arg, p.of(v, with(f, typed{arg, u}), room/2), p.of(t, f, room/2))
	case 4:
		rest := with(with(in, typed{name, u}), typed{arg, list(u)})
		return both("match", name, arg, p.of(list(u), in, room/3), p.of(t, in, room/3), p.of(t, rest, room/3))
	case 5:
		return named("try", name, p.of(t, in, room/2), p.of(t, with(in, typed{name, num}), room/2))
	case 6, 7:
		return node("app", p.of(fun(u, t), in, room/2), p.of(u, in, room/2))
	case 8:
		return node("seq", p.of(u, in, room/3), p.of(t, in, room/2))
	case 9:
		return node("fst", p.of(pair(t, u), in, room))
	case 10:
		return node("snd", p.of(pair(u, t), in, room))
	case 11:
		return node("get", p.of(ty("ref", t), in, room))
	}
	return p.byType(t, in, room)
}

func with(in []typed, x typed) []typed {
	in = slices.DeleteFunc(slices.Clone(in), func(y typed) bool { return y.name == x.name })
	return append(in, x)
}

// byType is an expression by what t is.
func (p pick) byType(t api.Type, in []typed, room int) api.Node {
	two := func(op string, a api.Type) api.Node { return node(op, p.of(a, in, room/2), p.of(a, in, room/2)) }
	switch t.Op {
	case "int":
		if k := p(5); k > 2 {
			return node([]string{"tag", "size"}[k-3], p.of([]api.Type{cell, text}[k-3], in, room))
		}
		return two([]string{"add", "sub", "mul"}[p(3)], num)
	case "bool":
		return two([]string{"eq", "less"}[p(2)], num)
	case "string":
		return two("cat", text)
	case "cell":
		return node("cell", p.of(num, in, room))
	case "unit":
		switch p(3) {
		case 0:
			return node("print", p.of(text, in, room))
		case 1:
			return node("link", p.of(cell, in, room/2), p.of(list(cell), in, room/2))
		}
		u := p.someType(3)
		return node("set", p.of(ty("ref", u), in, room/2), p.of(u, in, room/2))
	case "list":
		if t.Kids[0].Op == "cell" && p(2) == 0 {
			return node("links", p.of(cell, in, room))
		}
		return node("cons", p.of(t.Kids[0], in, room/2), p.of(t, in, room/2))
	case "ref":
		return node("ref", p.of(t.Kids[0], in, room))
	case "pair":
		return node("pair", p.of(t.Kids[0], in, room/2), p.of(t.Kids[1], in, room/2))
	}
	name := []string{"x", "y", "g", "h"}[p(4)]
	return named("fun", name, p.of(t.Kids[1], with(in, typed{name, t.Kids[0]}), room))
}

// leaf is the shortest that there is of type t.
func (p pick) leaf(t api.Type, in []typed) api.Node {
	in = slices.DeleteFunc(slices.Clone(in), func(x typed) bool { return !isMadeOf(x.t, t) })
	if len(in) > 0 && p(4) > 0 {
		return word(in[p(len(in))].name)
	}
	switch t.Op {
	case "int":
		return integer(int64(p(3)))
	case "bool":
		return api.Node{Op: "bool", N: int64(p(2))}
	case "string":
		return named("str", "a")
	case "unit":
		return node("unit")
	case "list":
		return node("nil")
	}
	return node("raise", integer(1))
}

// turned is n with one of its nodes replaced.
func (p pick) turned(n api.Node, by api.Node) api.Node {
	if len(n.Kids) == 0 || p(4) == 0 {
		return by
	}
	i := p(len(n.Kids))
	n.Kids = slices.Clone(n.Kids)
	n.Kids[i] = p.turned(n.Kids[i], by)
	return n
}
