package mark

import (
	"bytes"
	"fmt"
	"hash/fnv"
	"math"
	"math/rand"
	"reflect"
	"slices"
	"strings"
	"sync"
	"testing"

	"emissary/api"
	"emissary/typ"
)

func ty(op string, kids ...api.Type) api.Type { return api.Type{Op: op, Kids: kids} }

func v(n int) api.Type { return api.Type{Op: "var", N: n} }

func list(x api.Type) api.Type { return ty("list", x) }

func pair(a, b api.Type) api.Type { return ty("pair", a, b) }

func fun(a, b api.Type) api.Type { return ty("fun", a, b) }

var num, truth = ty("int"), ty("bool")

// leaves is the types that have no kid; inner is the Ops that have.
var leaves = []api.Type{num, truth, ty("unit"), ty("string"), ty("cell"), v(0)}

var inner = []string{"list", "ref", "pair", "fun"}

// noneMark is the mark of no bytes.
const noneMark = 0xcbf29ce484222325

// few is what a message tells of x.
func few(x any) string {
	s := fmt.Sprint(x)
	return s[:min(len(s), 300)]
}

// within is x alone, at each place of each Op, and deeper.
func within(x api.Type) []api.Type {
	l := []api.Type{x, row(50, x)}
	for _, op := range inner {
		for i := range kidsOf[op] {
			kids := []api.Type{v(5), truth}[:kidsOf[op]]
			kids[i] = x
			y := ty(op, kids...)
			l = append(l, y, list(y), pair(v(8), y), fun(y, v(5)), fun(fun(truth, ty("ref", y)), ty("cell")))
		}
	}
	return l
}

// row is n nodes, each the only kid of the one above it; core is the last.
func row(n int, core api.Type) api.Type {
	for i := range n - 1 {
		core = ty(inner[i%2], core)
	}
	return core
}

// bush is n nodes, half of them beside the other half.
func bush(n int) api.Type {
	switch n {
	case 1:
		return v(7)
	case 2:
		return ty("ref", num)
	}
	left := (n - 1) / 2
	return fun(bush(left), bush(n-1-left))
}

// comb is n nodes, an odd number, that go down by their first or last kids;
// each has a var of its own beside.
func comb(n, down int, core api.Type) api.Type {
	for i := range (n - 1) / 2 {
		kids := []api.Type{v(i), v(i)}
		kids[down] = core
		core = ty("pair", kids...)
	}
	return core
}

// doubled is 2^n - 1 nodes, of which all of a depth are one in memory.
func doubled(n int) api.Type {
	x := v(3)
	for range n - 1 {
		x = pair(x, x)
	}
	return x
}

// tuple is a type that has vars of those numbers, from the left.
func tuple(numbers ...int) api.Type {
	x := v(numbers[len(numbers)-1])
	for _, n := range slices.Backward(numbers[:len(numbers)-1]) {
		x = pair(v(n), x)
	}
	return x
}

// upTo is first, first + step and so on, n in all.
func upTo(first, step, n int) (l []int) {
	for i := range n {
		l = append(l, first+i*step)
	}
	return l
}

// large is all Ops in one type.
func large() api.Type {
	x := pair(v(300), fun(v(2), v(300)))
	for _, leaf := range leaves {
		x = fun(leaf, pair(ty("ref", list(x)), v(2)))
	}
	return x
}

// nones is types that are none, each by one thing.
func nones() []api.Type {
	l := []api.Type{{}, ty("char"), ty("", num), ty("Int"), ty("int "), ty("vars"), v(-1), v(math.MinInt), ty("var", num), {Op: "var", N: 3, Kids: []api.Type{num}}}
	for _, leaf := range leaves {
		l = append(l, ty(leaf.Op, num), ty(leaf.Op, num, num), ty(leaf.Op+"\x00"))
		if leaf.Op != "var" {
			l = append(l, api.Type{Op: leaf.Op, N: 1}, api.Type{Op: leaf.Op, N: -1}, api.Type{Op: leaf.Op, N: math.MaxInt})
		}
	}
	for _, op := range inner {
		for kids := range 5 {
			x := ty(op, slices.Repeat([]api.Type{num}, kids)...)
			if kids != kidsOf[op] {
				l = append(l, x)
				continue
			}
			x.N = 1
			l = append(l, x)
			x.N = math.MinInt
			l = append(l, x)
		}
	}
	return l
}

// wantBytes is that x has those bytes, and that they are read back.
func wantBytes(t *testing.T, x api.Type, want []byte) {
	t.Helper()
	if got := Bytes(x); !bytes.Equal(got, want) {
		t.Errorf("Bytes(%s): %s, want %s", few(x), few(got), few(want))
	}
	h := fnv.New64a()
	h.Write(want)
	if got := Of(x); got != h.Sum64() {
		t.Errorf("Of(%s): %x, want %x", few(x), got, h.Sum64())
	}
	if len(want) > 0 {
		wantRead(t, want, typ.Norm(x))
	}
}

// wantNoBytes is that x is no type.
func wantNoBytes(t *testing.T, x api.Type) {
	t.Helper()
	if b, mark := Bytes(x), Of(x); len(b) != 0 || mark != noneMark {
		t.Errorf("%s: Bytes %s, Of %x, want none", few(x.Op), few(b), mark)
	}
}

func wantRead(t *testing.T, b []byte, want api.Type) {
	t.Helper()
	if got, ok := Read(b); !ok || !typ.Same(got, want) {
		t.Errorf("Read(%s): %s, %v, want %s, true", few(b), few(got), ok, few(want))
	}
}

// wantNone is that b is no type's bytes, and the type beside it an empty one.
func wantNone(t *testing.T, b []byte) {
	t.Helper()
	if got, ok := Read(b); ok || !reflect.DeepEqual(got, api.Type{}) {
		t.Errorf("Read(%s): %s, %v, want none", few(b), few(got), ok)
	}
}

// wantExpected holds each call against the second working-out.
func wantExpected(t *testing.T, x api.Type) {
	t.Helper()
	b := expectedBytes(x)
	wantBytes(t, x, b)
	if len(b) == 0 {
		wantNoBytes(t, x)
	}
	wantExpectedRead(t, b)
}

func wantExpectedRead(t *testing.T, b []byte) {
	t.Helper()
	want, ok := expectedRead(b)
	if !ok {
		wantNone(t, b)
		return
	}
	wantRead(t, b, want)
	if got := Bytes(want); !bytes.Equal(got, b) {
		t.Errorf("Bytes(%s): %s, want %s", few(want), few(got), few(b))
	}
}

// P12.1: a node ahead of its kids, each a byte.
func TestKnownBytes(t *testing.T) {
	for _, x := range []struct {
		t    api.Type
		want []byte
	}{
		{num, []byte{1}},
		{truth, []byte{2}},
		{ty("unit"), []byte{3}},
		{ty("string"), []byte{4}},
		{ty("cell"), []byte{5}},
		{list(num), []byte{6, 1}},
		{ty("ref", truth), []byte{7, 2}},
		{pair(num, truth), []byte{8, 1, 2}},
		{pair(truth, num), []byte{8, 2, 1}},
		{fun(ty("unit"), ty("cell")), []byte{9, 3, 5}},
		{v(0), []byte{10, 0}},
		{v(1), []byte{10, 0}},
		{v(math.MaxInt), []byte{10, 0}},
		{fun(v(4), v(4)), []byte{9, 10, 0, 10, 0}},
		{fun(v(4), v(3)), []byte{9, 10, 0, 10, 1}},
		{pair(v(1), pair(v(0), v(1))), []byte{8, 10, 0, 8, 10, 1, 10, 0}},
		{fun(pair(v(9), ty("ref", v(2))), fun(v(0), list(v(2)))), []byte{9, 8, 10, 0, 7, 10, 1, 9, 10, 2, 6, 10, 1}},
		{list(list(list(ty("string")))), []byte{6, 6, 6, 4}},
		{pair(pair(num, truth), fun(ty("unit"), ty("string"))), []byte{8, 8, 1, 2, 9, 3, 4}},
	} {
		wantBytes(t, x.t, x.want)
		wantExpected(t, x.t)
	}
}

// P12.1
func TestKnownMarks(t *testing.T) {
	for _, x := range []struct {
		t    api.Type
		want uint64
	}{{num, 0xaf63bc4c8601b62c}, {list(num), 0x082bbb07b4e5a7e8}, {fun(v(3), v(2)), 0x7d2d4355f05451c7}, {ty("list"), noneMark}, {api.Type{}, noneMark}} {
		if got := Of(x.t); got != x.want {
			t.Errorf("Of(%v): %x, want %x", x.t, got, x.want)
		}
	}
}

// P12.1: each Op in each Op.
func TestEachOpInEachOp(t *testing.T) {
	all := leaves
	for _, op := range inner {
		for _, a := range leaves {
			all = append(all, ty(op, []api.Type{a, v(3)}[:kidsOf[op]]...))
		}
	}
	for _, x := range all {
		for _, y := range within(x) {
			wantExpected(t, y)
		}
	}
	wantExpected(t, large())
}

// P12.1: a var's number is one byte up to 127, two above.
func TestNumbersOfVars(t *testing.T) {
	for _, n := range []int{1, 2, 126, 127, 128, 129, 130, 255, 256, 257, 300, 511, 512, 999, 1000} {
		x := tuple(upTo(0, 1, n)...)
		wantExpected(t, x)
		last := []byte{10, byte(n - 1)}
		if n > 128 {
			last = []byte{10, byte((n-1)%128 + 128), byte((n - 1) / 128)}
		}
		if b := Bytes(x); !bytes.HasSuffix(b, last) || len(b) != n-1+2*n+max(n-128, 0) {
			t.Errorf("the bytes of %d vars: %d, the last ones %v, want %v", n, len(b), b[len(b)-len(last):], last)
		}
	}
}

// P12.1, P12.2: whatever the numbers of the vars, the bytes are those of Norm.
func TestVarsOfAnyNumbers(t *testing.T) {
	for _, numbers := range [][]int{
		{1}, {7}, {1, 0}, {0, 2}, {2, 0, 1}, {5, 5, 5}, {9, 3, 9, 3, 4}, {0, 1, 0, 3}, {128, 127, 0, 128}, {math.MaxInt, 0, math.MaxInt - 1, math.MaxInt},
		{1 << 32, 0, 1 << 33, 1}, upTo(999, -1, 1000), upTo(5000, 1, 1000), upTo(1<<40, 1<<32, 500),
	} {
		x := tuple(numbers...)
		wantExpected(t, x)
		wantBytes(t, x, Bytes(typ.Norm(x)))
		if Of(x) != Of(typ.Norm(x)) {
			t.Errorf("Of(%s) is not that of its Norm", few(x))
		}
	}
}

// P12.1: nothing of what is no type, alone and deep within others.
func TestWhatIsNoType(t *testing.T) {
	for _, none := range nones() {
		for _, x := range within(none) {
			wantNoBytes(t, x)
		}
		wantNoBytes(t, pair(bush(500), row(1000, none)))
		wantNoBytes(t, pair(none, bush(1000)))
	}
}

// shapes is types of n nodes.
func shapes(n int) []api.Type {
	l := []api.Type{row(n, num), row(n, v(4)), bush(n), pair(row(n/2, ty("cell")), row(n-1-n/2, v(0))), fun(row(n-2, num), truth), fun(v(1), row(n-2, v(0)))}
	if n%2 == 1 {
		return append(l, comb(n, 0, v(3)), comb(n, 1, num))
	}
	return append(l, list(comb(n-1, 0, v(3))), ty("ref", comb(n-1, 1, num)))
}

// plain is t's bytes without asking whether it is one: its vars stand as in
// Norm.
func plain(t api.Type) []byte {
	var walk func(b []byte, t api.Type) []byte
	walk = func(b []byte, t api.Type) []byte {
		b = append(b, byteFor[t.Op])
		if t.Op == "var" {
			// No shape has a number of more than two bytes.
			if t.N > 127 {
				b = append(b, byte(t.N%128)+128)
				t.N /= 128
			}
			b = append(b, byte(t.N))
		}
		for _, k := range t.Kids {
			b = walk(b, k)
		}
		return b
	}
	return walk(nil, typ.Norm(t))
}

// P12.1: MaxNodes nodes are a type, one more are none.
func TestMostNodes(t *testing.T) {
	for n := api.MaxNodes - 2; n <= api.MaxNodes; n++ {
		for _, x := range shapes(n) {
			wantBytes(t, x, plain(x))
			wantExpected(t, x)
		}
	}
	for _, n := range []int{api.MaxNodes + 1, api.MaxNodes + 2, api.MaxNodes + 3, 2 * api.MaxNodes, 3 * api.MaxNodes} {
		for _, x := range shapes(n) {
			wantNoBytes(t, x)
			wantNone(t, plain(x))
		}
	}
}

// P12.1, W1: also where a type goes round.
func TestManyMoreNodes(t *testing.T) {
	loop := make([]api.Type, 2)
	loop[0], loop[1] = ty("pair", loop...), ty("fun", loop...)
	for _, x := range []api.Type{row(1<<16, num), bush(100000), comb(1<<16+1, 0, num), comb(1<<16+1, 1, num), doubled(12), doubled(60), doubled(1 << 15),
		loop[0], list(loop[1]), ty("pair", slices.Repeat([]api.Type{num}, 1<<20)...)} {
		wantNoBytes(t, x)
	}
	wantExpected(t, doubled(10))
}

// P12.1, W1: bytes without an end, and some that end just where they should.
func TestManyBytes(t *testing.T) {
	for c := range 256 {
		wantNone(t, bytes.Repeat([]byte{byte(c)}, 1<<16))
	}
	for _, c := range []byte{6, 7, 8, 9} {
		wantNone(t, bytes.Repeat([]byte{c}, 1<<22))
		wantNone(t, append(bytes.Repeat([]byte{c}, 1<<20), bytes.Repeat([]byte{1}, 1<<20+1)...))
		wantNone(t, append(bytes.Repeat([]byte{c, 1}, 1<<20), 1))
	}
	wantNone(t, append([]byte{1}, make([]byte, 1<<22)...))
	wantNone(t, append([]byte{10}, bytes.Repeat([]byte{128}, 1<<22)...))
}

// P12.1
func TestNoBytes(t *testing.T) {
	wantNone(t, nil)
	wantNone(t, []byte{})
}

// P12.1: a byte that is no Op, alone, at each place of others, and in the place
// of each byte.
func TestBytesThatAreNoOp(t *testing.T) {
	for c := range 256 {
		if c >= 1 && c <= 10 {
			continue
		}
		for _, b := range [][]byte{{0}, {0, 1}, {0, 0}, {6, 0}, {7, 0}, {8, 0, 1}, {8, 1, 0}, {9, 0, 0}, {9, 8, 1, 0, 2}, {6, 6, 6, 0}, {1, 0}, {6, 1, 0}, {10, 0, 0}} {
			b = bytes.Clone(b)
			at := max(bytes.LastIndexByte(b, 0), 0)
			b[at] = byte(c)
			wantNone(t, b)
		}
	}
}

// samples is types of many kinds.
func samples() []api.Type {
	r := rand.New(rand.NewSource(12))
	l := []api.Type{large(), row(30, num), row(30, v(2)), bush(60), comb(41, 0, v(2)), comb(41, 1, num), tuple(upTo(9, -1, 10)...), tuple(upTo(0, 1, 140)...)}
	for _, x := range leaves {
		l = append(l, within(x)...)
	}
	for range 200 {
		l = append(l, randomType(r, 1+r.Intn(60)))
	}
	return l
}

// P12.1
func TestCutShort(t *testing.T) {
	for _, x := range append(samples(), row(api.MaxNodes, num), tuple(upTo(0, 1, 1000)...)) {
		b := Bytes(x)
		for cut := range b {
			wantNone(t, b[:cut])
		}
	}
}

// P12.1
func TestMoreBehind(t *testing.T) {
	for _, x := range append(samples(), row(api.MaxNodes, num), row(api.MaxNodes-1, v(0))) {
		b := Bytes(x)
		for c := range 256 {
			wantNone(t, append(bytes.Clone(b), byte(c)))
		}
		wantNone(t, append(bytes.Clone(b), b...))
		wantNone(t, append(bytes.Clone(b), 10, 0))
		wantNone(t, append(bytes.Clone(b), make([]byte, 1000)...))
	}
}

// P12.1: each byte turned, taken out and put in.
func TestTurnedBytes(t *testing.T) {
	for _, x := range samples() {
		b := Bytes(x)
		if len(b) > 100 {
			continue
		}
		for i := range b {
			for _, c := range []byte{0, 1, 2, 5, 6, 7, 8, 9, 10, 11, 12, 127, 128, 129, 255} {
				turned := bytes.Clone(b)
				turned[i] = c
				wantExpectedRead(t, turned)
				wantExpectedRead(t, slices.Insert(bytes.Clone(b), i, c))
			}
			wantExpectedRead(t, slices.Delete(bytes.Clone(b), i, i+1))
		}
	}
}

// zeros is n bytes that have no digit of a number and say that more follow.
func zeros(n int) []byte { return bytes.Repeat([]byte{128}, n) }

// P12.1: a var's number has just one form.
func TestNumbersNotInTheirLeastForm(t *testing.T) {
	for n := 1; n < 12; n++ {
		zero := append(zeros(n), 0)
		wantNone(t, append([]byte{10}, zero...))
		wantNone(t, append([]byte{6, 10}, zero...))
		wantNone(t, append([]byte{9, 10, 0, 10}, zero...))
		wantNone(t, append(append([]byte{9, 10}, zero...), 10, 1))
		one := append([]byte{129}, append(zeros(n-1), 0)...)
		wantNone(t, append([]byte{9, 10, 0, 10}, one...))
		wantNone(t, append(append([]byte{8, 10, 0, 8, 10}, one...), 10, 2))
	}
	vars := Bytes(tuple(upTo(0, 1, 130)...))
	for _, last := range [][]byte{{129, 129, 0}, {129, 129, 128, 0}, {128, 129, 0}} {
		wantNone(t, append(bytes.Clone(vars[:len(vars)-2]), last...))
	}
	wantRead(t, append(bytes.Clone(vars[:len(vars)-2]), 128, 1), tuple(append(upTo(0, 1, 129), 128)...))
}

// P12.1: numbers of which some digits, or all, are those of one that would do.
func TestNumbersThatAreTooGreat(t *testing.T) {
	for _, number := range [][]byte{
		{1}, {2}, {127}, {128, 1}, {128, 2}, {255, 127}, {128, 128, 4}, {255, 255, 255, 255, 7}, {255, 255, 255, 255, 15},
		{128, 128, 128, 128, 16}, append(zeros(8), 64), append(zeros(8), 127), append(zeros(9), 1), append(zeros(9), 2), append(zeros(9), 127), append(zeros(10), 1),
		append(bytes.Repeat([]byte{255}, 8), 127), append(bytes.Repeat([]byte{255}, 9), 1), append(bytes.Repeat([]byte{255}, 9), 2), bytes.Repeat([]byte{255}, 20),
	} {
		for _, ahead := range [][]byte{{10}, {6, 10}, {8, 1, 10}, {9, 6, 2, 7, 10}} {
			wantNone(t, append(bytes.Clone(ahead), number...))
			wantNone(t, append(append([]byte{8}, append(ahead, number...)...), 1))
		}
		if number[0] != 1 {
			wantNone(t, append([]byte{8, 10, 0, 10}, number...))
		}
	}
}

// P12.1: each way to number up to five vars.
func TestVarsNumberedAsNormNumbersThem(t *testing.T) {
	for n := 1; n <= 5; n++ {
		ways := 1
		for range n {
			ways *= n + 1
		}
		for way := range ways {
			var numbers []int
			for range n {
				numbers = append(numbers, way%(n+1))
				way /= n + 1
			}
			next, norm := 0, true
			for _, k := range numbers {
				norm = norm && k <= next
				next = max(next, k+1)
			}
			x := tuple(numbers...)
			var b []byte
			for i, k := range numbers {
				if i < n-1 {
					b = append(b, 8)
				}
				b = append(b, 10, byte(k))
			}
			if norm {
				wantRead(t, b, x)
			} else {
				wantNone(t, b)
			}
			wantExpected(t, x)
		}
	}
}

// small is all types of at most that many nodes: of small[i] each has i + 1.
func small(most int) [][]api.Type {
	sizes := [][]api.Type{append(slices.Clone(leaves), v(1), v(4))}
	for n := 2; n <= most; n++ {
		var l []api.Type
		for _, k := range sizes[n-2] {
			l = append(l, list(k), ty("ref", k))
		}
		for first := 1; first <= n-2; first++ {
			for _, a := range sizes[first-1] {
				for _, b := range sizes[n-2-first] {
					l = append(l, pair(a, b), fun(a, b))
				}
			}
		}
		sizes = append(sizes, l)
	}
	return sizes
}

// P12.1, P12.2: of all small types two have one Bytes just if the texts of
// their Norm are one.
func TestEverySmallType(t *testing.T) {
	texts := map[string]string{}
	known := map[string][]byte{}
	for _, l := range small(5) {
		for _, x := range l {
			wantExpected(t, x)
			b, text := Bytes(x), typ.Show(typ.Norm(x))
			if other, ok := texts[string(b)]; ok && other != text {
				t.Fatalf("%s and %s have one Bytes, %v", other, text, b)
			}
			if other, ok := known[text]; ok && !bytes.Equal(other, b) {
				t.Fatalf("%s has two Bytes, %v and %v", text, other, b)
			}
			texts[string(b)], known[text] = text, b
		}
	}
}

// P12.1: of all short bytes those are read that are some type's.
func TestEveryShortBytes(t *testing.T) {
	const longest = 5
	all := map[string]api.Type{}
	for _, l := range small(longest) {
		for _, x := range l {
			all[string(expectedBytes(x))] = typ.Norm(x)
		}
	}
	var try func(b []byte)
	try = func(b []byte) {
		if want, ok := all[string(b)]; ok {
			wantRead(t, b, want)
		} else {
			wantNone(t, b)
		}
		if len(b) == longest {
			return
		}
		for _, c := range []byte{0, 1, 2, 3, 4, 5, 6, 7, 8, 9, 10, 11, 128, 129, 255} {
			try(append(b, c))
		}
	}
	try(nil)
}

// P12.2: types that are alike but for one thing.
func TestTypesThatDiffer(t *testing.T) {
	for _, x := range []struct {
		a, b api.Type
		one  bool
	}{
		{v(0), v(9), true},
		{fun(v(1), v(2)), fun(v(2), v(1)), true},
		{fun(v(1), v(1)), fun(v(2), v(2)), true},
		{fun(v(1), v(1)), fun(v(1), v(2)), false},
		{tuple(0, 1, 0), tuple(7, 5, 7), true},
		{tuple(0, 1, 0), tuple(7, 5, 5), false},
		{tuple(0, 1, 1), tuple(0, 0, 1), false},
		{tuple(0, 1, 2), tuple(0, 1, 0), false},
		{pair(num, truth), pair(truth, num), false},
		{pair(v(0), num), pair(num, v(0)), false},
		{pair(v(0), v(1)), pair(v(1), v(0)), true},
		{pair(num, truth), fun(num, truth), false},
		{list(num), ty("ref", num), false},
		{list(v(0)), list(num), false},
		{pair(pair(num, num), num), pair(num, pair(num, num)), false},
		{pair(list(num), truth), list(pair(num, truth)), false},
		{num, list(num), false},
		{tuple(upTo(0, 1, 200)...), tuple(upTo(199, -1, 200)...), true},
		{tuple(upTo(0, 1, 200)...), tuple(append(upTo(0, 1, 199), 198)...), false},
		{api.Type{}, ty("list"), true},
	} {
		if got := bytes.Equal(Bytes(x.a), Bytes(x.b)); got != x.one {
			t.Errorf("the Bytes of %s and %s are one: %v", few(x.a), few(x.b), got)
		}
		if got := Of(x.a) == Of(x.b); got != x.one {
			t.Errorf("Of of %s and %s are one: %v", few(x.a), few(x.b), got)
		}
	}
}

// turned is x with one node, or the numbers of its vars, another.
func turned(r *rand.Rand, x api.Type) api.Type {
	if r.Intn(4) == 0 {
		shift := 1 + r.Intn(5)
		return numbered(x, func(n int) int { return 3*n + shift })
	}
	if len(x.Kids) == 0 || r.Intn(3) == 0 {
		switch {
		case x.Op == "var":
			return v(r.Intn(5))
		case len(x.Kids) == 2 && r.Intn(2) == 0:
			return ty(x.Op, x.Kids[1], x.Kids[0])
		case len(x.Kids) > 0:
			return ty(inner[2*(len(x.Kids)-1)+r.Intn(2)], x.Kids...)
		}
		return leaves[r.Intn(len(leaves))]
	}
	y := copied(x)
	i := r.Intn(len(y.Kids))
	y.Kids[i] = turned(r, y.Kids[i])
	return y
}

// numbered is x with other numbers of its vars.
func numbered(x api.Type, f func(int) int) api.Type {
	if x.Op == "var" {
		return v(f(x.N))
	}
	y := ty(x.Op)
	for _, k := range x.Kids {
		y.Kids = append(y.Kids, numbered(k, f))
	}
	return y
}

// copied is t in memory of its own.
func copied(t api.Type) api.Type {
	kids := t.Kids
	t.Kids = nil
	for _, k := range kids {
		t.Kids = append(t.Kids, copied(k))
	}
	return t
}

// randomType is one of at most room nodes.
func randomType(r *rand.Rand, room int) api.Type {
	op := inner[r.Intn(len(inner))]
	if room <= kidsOf[op] || r.Intn(10) == 0 {
		if r.Intn(2) == 0 {
			return v(r.Intn(1 << r.Intn(9)))
		}
		return leaves[r.Intn(len(leaves))]
	}
	room--
	if kidsOf[op] == 1 {
		return ty(op, randomType(r, room))
	}
	left := 1 + r.Intn(room-1)
	return ty(op, randomType(r, left), randomType(r, room-left))
}

// P12.1, P12.2: two random types, one of the other with a few things turned.
func TestRandomTypes(t *testing.T) {
	r := rand.New(rand.NewSource(1212))
	same := 0
	for range 20000 {
		a := randomType(r, 1+r.Intn(40))
		b := turned(r, a)
		wantExpected(t, a)
		wantExpected(t, b)
		one := typ.Same(typ.Norm(a), typ.Norm(b))
		if got := bytes.Equal(Bytes(a), Bytes(b)); got != one {
			t.Errorf("the Bytes of %s and %s are one: %v", typ.Show(a), typ.Show(b), got)
		}
		if one {
			same++
		}
	}
	if same < 1000 || same > 19000 {
		t.Errorf("%d of 20000 are the same", same)
	}
	for range 100 {
		wantExpected(t, randomType(r, 3000))
	}
}

// P12.1: bytes that begin as a type's may.
func TestRandomBytes(t *testing.T) {
	r := rand.New(rand.NewSource(121212))
	for range 200000 {
		b := make([]byte, 1+r.Intn(14))
		for i := range b {
			b[i] = byte(r.Intn(12))
			if r.Intn(3) == 0 {
				b[i] = 10
			}
			if i > 0 && b[i-1] == 10 {
				b[i] = byte(r.Intn(3))
			}
		}
		wantExpectedRead(t, b)
	}
}

// W5: no kids are nil or an empty list.
func TestNoKidsNilOrEmpty(t *testing.T) {
	for _, x := range leaves {
		y := api.Type{Op: x.Op, Kids: []api.Type{}}
		wantBytes(t, y, Bytes(x))
		wantBytes(t, pair(y, list(y)), Bytes(pair(x, list(x))))
	}
	wantNoBytes(t, api.Type{Op: "list", Kids: []api.Type{}})
}

// spare is t with room behind the end of each of its lists, in which other
// types stand.
func spare(t api.Type) api.Type {
	kids := make([]api.Type, 0, len(t.Kids)+2)
	for _, k := range t.Kids {
		kids = append(kids, spare(k))
	}
	t.Kids = append(kids, v(81), v(82))[:len(kids)]
	return t
}

// unchanged tells whether t is what spare made of was, spare room too.
func unchanged(t, was api.Type) bool {
	if t.Op != was.Op || t.N != was.N || len(t.Kids) != len(was.Kids) || cap(t.Kids) != len(t.Kids)+2 {
		return false
	}
	behind := t.Kids[len(t.Kids):cap(t.Kids)]
	return typ.Same(behind[0], v(81)) && typ.Same(behind[1], v(82)) && slices.EqualFunc(t.Kids, was.Kids, unchanged)
}

// spoil changes all that t has, the spare room of its lists too.
func spoil(t api.Type) {
	l := t.Kids[:cap(t.Kids)]
	for i := range l {
		spoil(l[i])
		l[i] = api.Type{Op: "spoiled", N: -5}
	}
}

// filled changes all of b, its spare room too.
func filled(b []byte) {
	b = b[:cap(b)]
	for i := range b {
		b[i] = 77
	}
}

// P12.2, W6
func TestNothingIsChanged(t *testing.T) {
	for _, was := range append(samples(), nones()...) {
		x := spare(was)
		filled(Bytes(x))
		Of(x)
		if !unchanged(x, was) {
			t.Fatalf("%s is changed", few(was))
		}
		b := Bytes(was)
		for _, text := range [][]byte{b, b[:len(b)/2], append(bytes.Clone(b), 9), append([]byte{9, 10, 1}, b...)} {
			room := append(bytes.Clone(text), 6, 1, 10, 0, 255)
			want := bytes.Clone(room)
			u, _ := Read(room[:len(text)])
			spoil(u)
			if !bytes.Equal(room, want) {
				t.Fatalf("Read changes %s to %s", few(want), few(room))
			}
		}
	}
}

// places is where each element of t's lists lies, spare room too.
func places(t api.Type, add func(*api.Type)) {
	l := t.Kids[:cap(t.Kids)]
	for i := range l {
		add(&l[i])
		places(l[i], add)
	}
}

// W6: no two lists that Read answers share memory, in one answer or in two, and
// no two Bytes do.
func TestAnswersAreNewMemory(t *testing.T) {
	for _, x := range append(samples(), doubled(10)) {
		b := Bytes(x)
		seen := map[*api.Type]bool{}
		for range 2 {
			u, _ := Read(b)
			places(u, func(p *api.Type) {
				if seen[p] {
					t.Fatalf("Read(%s) shares memory", few(b))
				}
				seen[p] = true
			})
		}
		other := Bytes(x)
		filled(b)
		if !bytes.Equal(other, expectedBytes(x)) {
			t.Fatalf("Bytes(%s) shares memory", few(x))
		}
	}
}

// W7: an answer stays what it is, whatever happens to what was handed in.
func TestAnswersStay(t *testing.T) {
	for _, x := range samples() {
		given, want := copied(x), expectedBytes(x)
		b := Bytes(given)
		u, _ := Read(b)
		kept := bytes.Clone(b)
		spoil(given)
		wantBytes(t, large(), expectedBytes(large()))
		if !bytes.Equal(b, want) {
			t.Fatalf("Bytes(%s) does not stay", few(x))
		}
		filled(b)
		wantRead(t, kept, u)
		wantBytes(t, u, want)
	}
}

// W2: the same answers, whichever goroutine asks.
func TestAskedAtOnce(t *testing.T) {
	var all sync.WaitGroup
	for range 8 {
		all.Go(func() {
			for _, x := range samples() {
				wantExpected(t, x)
			}
		})
	}
	all.Wait()
}

// given is the type that bytes tell: which Op, its number, then its kids. A
// great first byte tells what is no type.
func given(b []byte, deep int) (api.Type, []byte) {
	if len(b) < 2 || deep == 0 {
		return num, nil
	}
	op, n := opOf[b[0]%10+1], int(b[1])
	x := ty(op)
	if op == "var" {
		x.N = n
	}
	kids := kidsOf[op]
	if b[0] >= 250 {
		return nones()[n%len(nones())], b[2:]
	}
	b = b[2:]
	for range kids {
		var k api.Type
		k, b = given(b, deep-1)
		x.Kids = append(x.Kids, k)
	}
	return x, b
}

// Whatever the bytes: what the document asks of them, read as they are, and of
// a type that they tell.
func FuzzMark(f *testing.F) {
	for _, x := range []api.Type{num, large(), tuple(3, 1, 3), fun(v(0), list(v(1)))} {
		f.Add(Bytes(x))
	}
	for _, s := range []string{"", "\x0b", "\x0a\x80\x00", "\x09\x0a\x00\x0a\x02", strings.Repeat("\x06", 50) + "\x01", "\xff\x01", "\x08\x00\x09\x07\x09\x08"} {
		f.Add([]byte(s))
	}
	f.Fuzz(func(t *testing.T, b []byte) {
		wantExpectedRead(t, b)
		x, _ := given(b, 1500)
		wantExpected(t, x)
	})
}
