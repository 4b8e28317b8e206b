package infer

import "emissary/api"

// most is how many nodes a type may have before it is refused. The document
// tells nothing of types of more than MaxNodes. This is more than MaxNodes nodes
// make if each adds two to a type; but one that doubles at each let would soon
// fill all memory.
const most = 4 * api.MaxNodes

// said is what vars were made. By it a type's size is known before the type is
// made, as a Sub can only tell the whole of it.
type said map[int]api.Type

// keep keeps what a and b, which were made one, say of their vars, or is false,
// if they are too large for that.
func (s said) keep(a, b api.Type) bool {
	pairs := [][2]api.Type{{a, b}}
	for i := 0; i < len(pairs); i++ {
		if i == most {
			return false
		}
		a, b := s.head(pairs[i][0]), s.head(pairs[i][1])
		switch {
		case a.Op == "var" && b.Op == "var" && a.N == b.N:
		case b.Op == "var":
			s[b.N] = a
		case a.Op == "var":
			s[a.N] = b
		default:
			for k := range a.Kids {
				pairs = append(pairs, [2]api.Type{a.Kids[k], b.Kids[k]})
			}
		}
	}
	return true
}

// head is t, or what it is, if it is a var of which something is said. Where
// a var leads to it by others, it leads there at once from then on.
func (s said) head(t api.Type) api.Type {
	is, made := s[t.N]
	if t.Op != "var" || !made {
		return t
	}
	is = s.head(is)
	s[t.N] = is
	return is
}

// size is how many nodes t has by what is said, or limit, which is 1 or more,
// if it has more.
func (s said) size(t api.Type, limit int) int {
	size := 1
	for _, k := range s.head(t).Kids {
		if size == limit {
			break
		}
		size += s.size(k, limit-size)
	}
	return size
}
