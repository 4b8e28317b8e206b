package varint

import (
	"bytes"
	"math"
	"math/big"
	"testing"
)

// edges is, for each length in bytes, the least and the greatest number that
// has it, and those beside them.
func edges() []uint64 {
	all := []uint64{0, 1, 2, 63, 64, 100, 300, 1000000, 1<<32 - 1, 1 << 32, math.MaxUint64 - 1, math.MaxUint64}
	for k := 1; k <= 9; k++ {
		first := uint64(1) << (7 * k)
		all = append(all, first-2, first-1, first, first+1)
	}
	for k := range 64 {
		all = append(all, uint64(1)<<k, uint64(1)<<k-1, math.MaxUint64>>k)
	}
	return all
}

// sevens is v as the document says it, by division of numbers without a bound.
func sevens(v uint64) []byte {
	var out []byte
	left := new(big.Int).SetUint64(v)
	base, digit := big.NewInt(128), new(big.Int)
	for {
		left.DivMod(left, base, digit)
		if left.Sign() == 0 {
			return append(out, byte(digit.Int64()))
		}
		out = append(out, byte(digit.Int64())+128)
	}
}

func wantGet(t *testing.T, b []byte, v uint64, n int, ok bool) {
	t.Helper()
	gotV, gotN, gotOK := Get(b)
	if gotV != v || gotN != n || gotOK != ok {
		t.Errorf("Get(%v) = %d, %d, %v; want %d, %d, %v", b, gotV, gotN, gotOK, v, n, ok)
	}
}

// P1.1
func TestPutBytes(t *testing.T) {
	for _, x := range []struct {
		v    uint64
		want []byte
	}{
		{0, []byte{0}},
		{1, []byte{1}},
		{127, []byte{127}},
		{128, []byte{128, 1}},
		{129, []byte{129, 1}},
		{300, []byte{172, 2}},
		{16383, []byte{255, 127}},
		{16384, []byte{128, 128, 1}},
		{1<<63 - 1, []byte{255, 255, 255, 255, 255, 255, 255, 255, 127}},
		{1 << 63, []byte{128, 128, 128, 128, 128, 128, 128, 128, 128, 1}},
		{math.MaxUint64, []byte{255, 255, 255, 255, 255, 255, 255, 255, 255, 1}},
	} {
		if got := Put(x.v); !bytes.Equal(got, x.want) {
			t.Errorf("Put(%d) = %v, want %v", x.v, got, x.want)
		}
	}
	for _, v := range edges() {
		if got, want := Put(v), sevens(v); !bytes.Equal(got, want) {
			t.Errorf("Put(%d) = %v, want %v", v, got, want)
		}
	}
}

// P1.1
func TestPutLengths(t *testing.T) {
	for n := 1; n <= 10; n++ {
		least, greatest := uint64(0), uint64(math.MaxUint64)
		if n > 1 {
			least = 1 << (7 * (n - 1))
		}
		if n < 10 {
			greatest = 1<<(7*n) - 1
		}
		if a, b := len(Put(least)), len(Put(greatest)); a != n || b != n {
			t.Errorf("of %d and %d: %d and %d bytes, want %d", least, greatest, a, b, n)
		}
	}
}

// P1.1: nothing, and each number cut short.
func TestGetCutShort(t *testing.T) {
	wantGet(t, nil, 0, 0, false)
	wantGet(t, []byte{}, 0, 0, false)
	for _, v := range edges() {
		b := Put(v)
		for n := range b {
			wantGet(t, b[:n], 0, 0, false)
		}
	}
}

// P1.1: a last group of nought, where a shorter form is there, at each length.
func TestGetTooLong(t *testing.T) {
	wantGet(t, []byte{128, 0}, 0, 0, false)
	wantGet(t, []byte{128, 0, 1}, 0, 0, false)
	wantGet(t, []byte{255, 0}, 0, 0, false)
	wantGet(t, []byte{172, 130, 0}, 0, 0, false)
	for _, v := range edges() {
		b := Put(v)
		b[len(b)-1] |= 128
		for range 12 {
			wantGet(t, append(bytes.Clone(b), 0), 0, 0, false)
			wantGet(t, append(bytes.Clone(b), 0, 1), 0, 0, false)
			b = append(b, 128)
		}
	}
}

// P1.1: numbers of more than 64 binary digits.
func TestGetTooGreat(t *testing.T) {
	for _, low := range []byte{128, 129, 255} {
		nine := bytes.Repeat([]byte{low}, 9)
		for last := range 256 {
			if last == 1 {
				continue
			}
			b := append(bytes.Clone(nine), byte(last))
			for _, tail := range [][]byte{nil, {0}, {1}, {127}, {128}, {255, 1}} {
				wantGet(t, append(bytes.Clone(b), tail...), 0, 0, false)
			}
		}
	}
	for _, n := range []int{10, 11, 12, 64, 1000, 1 << 20} {
		wantGet(t, append(bytes.Repeat([]byte{128}, n), 1), 0, 0, false)
		wantGet(t, bytes.Repeat([]byte{255}, n), 0, 0, false)
	}
}

// P1.1: all of up to two bytes, and some of three, are read if and only if they
// begin with what Put is of a number.
func TestGetOfEverything(t *testing.T) {
	made := map[string]uint64{}
	for v := range uint64(1 << 21) {
		made[string(sevensSmall(v))] = v
	}
	ask := func(b []byte) {
		for n := 1; n <= len(b); n++ {
			if v, ok := made[string(b[:n])]; ok {
				wantGet(t, b, v, n, true)
				return
			}
		}
		wantGet(t, b, 0, 0, false)
	}
	for x := range 256 {
		ask([]byte{byte(x)})
		for y := range 256 {
			ask([]byte{byte(x), byte(y)})
			for _, z := range []byte{0, 1, 2, 63, 64, 126, 127, 128, 129, 254, 255} {
				ask([]byte{byte(x), byte(y), z})
			}
		}
	}
}

// sevensSmall is sevens of what has at most three bytes, without its slow numbers.
func sevensSmall(v uint64) []byte {
	low, mid, high := byte(v%128), byte(v/128%128), byte(v/128/128)
	switch {
	case v < 128:
		return []byte{low}
	case v < 128*128:
		return []byte{low + 128, mid}
	}
	return []byte{low + 128, mid + 128, high}
}

// P1.2
func TestZigZagNumbers(t *testing.T) {
	for _, x := range []struct {
		v int64
		z uint64
	}{
		{0, 0}, {-1, 1}, {1, 2}, {-2, 3}, {2, 4}, {-3, 5}, {63, 126}, {-64, 127}, {64, 128},
		{1<<62 - 1, 1<<63 - 2},
		{-1 << 62, 1<<63 - 1},
		{1 << 62, 1 << 63},
		{-1<<62 - 1, 1<<63 + 1},
		{math.MaxInt64 - 1, math.MaxUint64 - 3},
		{math.MinInt64 + 1, math.MaxUint64 - 2},
		{math.MaxInt64, math.MaxUint64 - 1},
		{math.MinInt64, math.MaxUint64},
	} {
		if got := Zig(x.v); got != x.z {
			t.Errorf("Zig(%d) = %d, want %d", x.v, got, x.z)
		}
		if got := Zag(x.z); got != x.v {
			t.Errorf("Zag(%d) = %d, want %d", x.z, got, x.v)
		}
	}
}

// P1.2: by numbers without a bound.
func TestZigRule(t *testing.T) {
	for _, u := range edges() {
		v := int64(u)
		want := new(big.Int).Mul(big.NewInt(v), big.NewInt(2))
		if v < 0 {
			want.Neg(want).Sub(want, big.NewInt(1))
		}
		if got := Zig(v); !want.IsUint64() || got != want.Uint64() {
			t.Errorf("Zig(%d) = %d, want %v", v, got, want)
		}
	}
}

// P1.3
func TestGetOfPut(t *testing.T) {
	tails := [][]byte{nil, {0}, {1}, {127}, {128}, {255}, {128, 0}, {255, 255, 255}, bytes.Repeat([]byte{128}, 20)}
	for _, v := range edges() {
		b := Put(v)
		for _, tail := range tails {
			wantGet(t, append(bytes.Clone(b), tail...), v, len(b), true)
		}
	}
}

// P1.3
func TestZigZagBack(t *testing.T) {
	for _, u := range edges() {
		for _, x := range []uint64{u, -u, ^u} {
			if got := Zig(Zag(x)); got != x {
				t.Errorf("Zig(Zag(%d)) = %d", x, got)
			}
			if v := int64(x); Zag(Zig(v)) != v {
				t.Errorf("Zag(Zig(%d)) = %d", v, Zag(Zig(v)))
			}
		}
	}
}

// P1.1, P1.3
func FuzzGet(f *testing.F) {
	f.Add([]byte{})
	f.Add([]byte{128, 0})
	f.Add([]byte{255, 255, 255, 255, 255, 255, 255, 255, 255, 2})
	for _, v := range edges() {
		f.Add(Put(v))
	}
	f.Fuzz(func(t *testing.T, b []byte) {
		v, n, ok := Get(b)
		if !ok {
			if v != 0 || n != 0 {
				t.Errorf("Get(%v) = %d, %d, false", b, v, n)
			}
			return
		}
		if n < 1 || n > len(b) || !bytes.Equal(sevens(v), b[:n]) {
			t.Errorf("Get(%v) = %d, %d, true", b, v, n)
		}
	})
}

// W6: what is handed in is not changed, nor the room behind it.
func TestGetLeavesItsBytes(t *testing.T) {
	room := []byte{172, 2, 9, 255, 128, 0}
	kept := bytes.Clone(room)
	for n := range len(room) + 1 {
		Get(room[:n])
		if !bytes.Equal(room, kept) {
			t.Fatalf("Get of %d bytes left %v", n, room)
		}
	}
	if v, n, ok := Get(room[:1]); v != 0 || n != 0 || ok {
		t.Errorf("Get read behind the end: %d, %d, %v", v, n, ok)
	}
}

// W6, W7: two answers share no memory, spare room too.
func TestPutAnswersNewMemory(t *testing.T) {
	for _, v := range edges() {
		first, second := Put(v), Put(v)
		want := bytes.Clone(second)
		whole := first[:cap(first)]
		for i := range whole {
			whole[i] = 77
		}
		if !bytes.Equal(second, want) || !bytes.Equal(Put(v), want) {
			t.Errorf("two answers of Put(%d) share memory", v)
		}
	}
}
