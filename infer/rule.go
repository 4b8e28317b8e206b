package infer

import "emissary/api"

// rule is what an Op that binds no name needs of its kids, and what it has
// then. v and w are new.
func rule(op string, v, w api.Type) (needs []api.Type, t api.Type) {
	number, truth, unit, text, cell := of("int"), of("bool"), of("unit"), of("string"), of("cell")
	switch op {
	case "int":
		return nil, number
	case "bool":
		return nil, truth
	case "unit":
		return nil, unit
	case "nil":
		return nil, of("list", v)
	case "str":
		return nil, text
	case "if":
		return types(truth, v, v), v
	case "raise":
		return types(number), v
	case "add", "sub", "mul":
		return types(number, number), number
	case "eq", "less":
		return types(number, number), truth
	case "cat":
		return types(text, text), text
	case "cons":
		return types(v, of("list", v)), of("list", v)
	case "pair":
		return types(v, w), of("pair", v, w)
	case "seq":
		return types(v, w), w
	case "set":
		return types(of("ref", v), v), unit
	case "get":
		return types(of("ref", v)), v
	case "app":
		return types(of("fun", v, w), v), w
	case "fst":
		return types(of("pair", v, w)), v
	case "snd":
		return types(of("pair", v, w)), w
	case "ref":
		return types(v), of("ref", v)
	case "cell":
		return types(number), cell
	case "tag":
		return types(cell), number
	case "links":
		return types(cell), of("list", cell)
	case "link":
		return types(cell, of("list", cell)), unit
	case "size":
		return types(text), number
	case "print":
		return types(text), unit
	}
	return nil, api.Type{}
}

func of(op string, kids ...api.Type) api.Type { return api.Type{Op: op, Kids: kids} }

func types(l ...api.Type) []api.Type { return l }
