package mark

import (
	"bytes"
	"encoding/binary"
	"math"
	"slices"
	"strings"

	"emissary/api"
)

// listed is each Op and its byte, as the document lists them.
const listed = "1 int, 2 bool, 3 unit, 4 string, 5 cell, 6 list, 7 ref, 8 pair, 9 fun, 10 var"

// kidsOf is how many kids an Op has.
var kidsOf = map[string]int{"int": 0, "bool": 0, "unit": 0, "string": 0, "cell": 0, "list": 1, "ref": 1, "pair": 2, "fun": 2, "var": 0}

// opOf is each byte's Op; byteFor is the other way.
var opOf, byteFor = func() (map[byte]string, map[string]byte) {
	ops, codes := map[byte]string{}, map[string]byte{}
	for i, s := range strings.Split(listed, ", ") {
		_, op, _ := strings.Cut(s, " ")
		ops[byte(i+1)], codes[op] = op, byte(i+1)
	}
	return ops, codes
}()

// nodesOf is t's nodes, each ahead of its kids, from the left; false if they
// are too many, or one of them does not have just what its Op has.
func nodesOf(t api.Type) (l []api.Type, ok bool) {
	left := []api.Type{t}
	for len(left) > 0 {
		x := left[len(left)-1]
		left = left[:len(left)-1]
		kids, known := kidsOf[x.Op]
		if !known || kids != len(x.Kids) || x.N < 0 || x.Op != "var" && x.N != 0 || len(l) == 2000 {
			return nil, false
		}
		l = append(l, x)
		for _, k := range slices.Backward(x.Kids) {
			left = append(left, k)
		}
	}
	return l, true
}

// expectedBytes is t's bytes, its vars numbered as they come.
func expectedBytes(t api.Type) (b []byte) {
	l, _ := nodesOf(t)
	came := map[int]int{}
	for _, x := range l {
		b = append(b, byteFor[x.Op])
		if x.Op == "var" {
			if _, again := came[x.N]; !again {
				came[x.N] = len(came)
			}
			b = binary.AppendUvarint(b, uint64(came[x.N]))
		}
	}
	return b
}

// expectedRead is the type whose bytes b is: its nodes are found from the
// left, without their kids, and joined from the right.
func expectedRead(b []byte) (api.Type, bool) {
	l, ok := alone(b)
	if !ok || len(l) > 2000 {
		return api.Type{}, false
	}
	var right []api.Type // the last is the one that stands first
	for _, x := range slices.Backward(l) {
		kids := kidsOf[x.Op]
		if kids > len(right) {
			return api.Type{}, false
		}
		x.Kids = slices.Clone(right[len(right)-kids:])
		slices.Reverse(x.Kids)
		right = append(right[:len(right)-kids], x)
	}
	if len(right) != 1 {
		return api.Type{}, false
	}
	return right[0], true
}

// alone is the nodes that b has, one behind the other.
func alone(b []byte) (l []api.Type, ok bool) {
	greatest := -1
	for len(b) > 0 {
		op, ok := opOf[b[0]]
		if !ok {
			return nil, false
		}
		b = b[1:]
		x := api.Type{Op: op}
		if op == "var" {
			v, size := binary.Uvarint(b)
			if size <= 0 || v > math.MaxInt32 || !bytes.Equal(binary.AppendUvarint(nil, v), b[:size]) || int(v) > greatest+1 {
				return nil, false
			}
			x.N, b = int(v), b[size:]
			greatest = max(greatest, x.N)
		}
		l = append(l, x)
	}
	return l, true
}
