package sum

import (
	"bytes"
	"hash/adler32"
	"hash/fnv"
	"math/big"
	"math/rand"
	"testing"
)

const (
	noAdler = uint32(1)
	noMark  = uint64(0xcbf29ce484222325)
)

// slowAdler is Adler as the document says it, by numbers without a bound whose
// remainder is taken once, at the end.
func slowAdler(text []byte) uint32 {
	a, b := big.NewInt(1), big.NewInt(0)
	for _, c := range text {
		a.Add(a, big.NewInt(int64(c)))
		b.Add(b, a)
	}
	m := big.NewInt(65521)
	a.Mod(a, m)
	b.Mod(b, m)
	b.Mul(b, big.NewInt(65536))
	return uint32(b.Add(b, a).Uint64())
}

// slowMark is Mark as the document says it, by numbers without a bound.
func slowMark(text []byte) uint64 {
	h, _ := new(big.Int).SetString("cbf29ce484222325", 16)
	times, _ := new(big.Int).SetString("100000001b3", 16)
	room := new(big.Int).Lsh(big.NewInt(1), 64)
	for _, c := range text {
		h.Xor(h, big.NewInt(int64(c)))
		h.Mul(h, times)
		h.Mod(h, room)
	}
	return h.Uint64()
}

func libraryMark(text []byte) uint64 {
	h := fnv.New64a()
	h.Write(text)
	return h.Sum64()
}

func everyByte() []byte {
	all := make([]byte, 256)
	for i := range all {
		all[i] = byte(i)
	}
	return all
}

// someBytes is n bytes, the same ones for the same n.
func someBytes(n int) []byte {
	text := make([]byte, n)
	rand.New(rand.NewSource(int64(n))).Read(text)
	return text
}

// texts is texts of many lengths, some of them great enough that both sums of
// Adler pass the modulus many times.
func texts() [][]byte {
	all := [][]byte{nil, {}, []byte("Wikipedia"), everyByte()}
	for c := range 256 {
		all = append(all, []byte{byte(c)})
	}
	for n := range 70 {
		all = append(all, someBytes(n))
	}
	for _, n := range []int{256, 257, 258, 361, 362, 363, 5551, 5552, 5553, 65520, 65521, 65522, 70000} {
		all = append(all, someBytes(n), make([]byte, n), bytes.Repeat([]byte{1}, n), bytes.Repeat([]byte{255}, n))
	}
	return all
}

func wantSums(t *testing.T, adler uint32, mark uint64, rows ...[]byte) {
	t.Helper()
	if got := Adler(rows...); got != adler {
		t.Errorf("Adler of %d rows, %.40v: %08x, want %08x", len(rows), rows, got, adler)
	}
	if got := Mark(rows...); got != mark {
		t.Errorf("Mark of %d rows, %.40v: %016x, want %016x", len(rows), rows, got, mark)
	}
}

// P2.1
func TestNothing(t *testing.T) {
	wantSums(t, noAdler, noMark)
	wantSums(t, noAdler, noMark, nil)
	wantSums(t, noAdler, noMark, []byte{})
	wantSums(t, noAdler, noMark, nil, []byte{}, nil, []byte{})
	wantSums(t, noAdler, noMark, [][]byte{}...)
	wantSums(t, noAdler, noMark, [][]byte(nil)...)
}

// P2.1
func TestKnownTexts(t *testing.T) {
	for _, x := range []struct {
		text  string
		adler uint32
		mark  uint64
	}{
		{"", 0x00000001, 0xcbf29ce484222325},
		{"a", 0x00620062, 0xaf63dc4c8601ec8c},
		{"abc", 0x024d0127, 0xe71fa2190541574b},
		{"foobar", 0x08ab027a, 0x85944171f73967e8},
		{"Wikipedia", 0x11e60398, slowMark([]byte("Wikipedia"))},
		{"\x00", 0x00010001, 0xaf63bd4c8601b7df},
		{"\xff", 0x01000100, 0xaf64724c8602eb6e},
	} {
		wantSums(t, x.adler, x.mark, []byte(x.text))
	}
}

// P2.1
func TestAsTheDocumentSays(t *testing.T) {
	for _, text := range texts() {
		wantSums(t, slowAdler(text), slowMark(text), text)
		wantSums(t, adler32.Checksum(text), libraryMark(text), text)
	}
}

// P2.1: a comes to just below the modulus, to it, and to just above it.
func TestModulusItself(t *testing.T) {
	for extra := range 4 {
		text := append(bytes.Repeat([]byte{255}, 256), byte(238+extra)) // 65280, and a starts at 1
		wantSums(t, slowAdler(text), slowMark(text), text)
		if a, want := Adler(text)&0xffff, uint32(65519+extra)%65521; a != want {
			t.Errorf("a is %d, want %d", a, want)
		}
	}
	// b is 65521 once a stands at 1 that often, as bytes of 0 add nothing to a.
	for n, b := range map[int]uint32{65520: 65520, 65521: 0, 65522: 1} {
		if got := Adler(make([]byte, n)); got != b*65536+1 {
			t.Errorf("Adler of %d zeros is %08x, want %08x", n, got, b*65536+1)
		}
	}
}

// P2.2
func TestTwoRows(t *testing.T) {
	for _, text := range [][]byte{nil, []byte("Wikipedia"), everyByte(), someBytes(300)} {
		for i := range len(text) + 1 {
			wantSums(t, slowAdler(text), slowMark(text), text[:i], text[i:])
			wantSums(t, slowAdler(text), slowMark(text), nil, text[:i], []byte{}, nil, text[i:], []byte{})
		}
	}
}

// P2.2
func TestAnyRows(t *testing.T) {
	r := rand.New(rand.NewSource(2))
	for n := range 400 {
		text := someBytes(n)
		wantSums(t, slowAdler(text), slowMark(text), parted(r, text)...)
	}
	text := someBytes(70000)
	wantSums(t, slowAdler(text), slowMark(text), parted(r, text)...)
}

// P2.2
func TestRowsOfOneByte(t *testing.T) {
	text := bytes.Repeat([]byte{255}, 6000)
	var rows [][]byte
	for i := range text {
		rows = append(rows, text[i:i+1], nil)
	}
	wantSums(t, slowAdler(text), slowMark(text), rows...)
}

// parted is text as rows, nil and empty ones among them.
func parted(r *rand.Rand, text []byte) [][]byte {
	var rows [][]byte
	for len(text) > 0 {
		n := r.Intn(min(len(text), 50) + 1)
		rows = append(rows, text[:n])
		text = text[n:]
		if r.Intn(4) == 0 {
			rows = append(rows, nil)
		}
	}
	return rows
}

// P2.2
func TestOneByteTurned(t *testing.T) {
	for _, text := range [][]byte{{0}, {255}, []byte("Wikipedia"), everyByte(), make([]byte, 40), bytes.Repeat([]byte{255}, 300)} {
		adler, mark := Adler(text), Mark(text)
		for at := range text {
			turned := bytes.Clone(text)
			for by := 1; by < 256; by++ {
				turned[at] = text[at] ^ byte(by)
				if Adler(turned) == adler {
					t.Fatalf("Adler is the same with byte %d of %.40v turned to %d", at, text, turned[at])
				}
				if Mark(turned) == mark {
					t.Fatalf("Mark is the same with byte %d of %.40v turned to %d", at, text, turned[at])
				}
			}
		}
	}
}

// P2.2: a great text, in which the sums have passed the modulus often.
func TestOneByteTurnedInGreatText(t *testing.T) {
	text := someBytes(70000)
	adler, mark := Adler(text), Mark(text)
	for at := 0; at < len(text); at += 997 {
		for _, by := range []byte{1, 128, 255} {
			turned := bytes.Clone(text)
			turned[at] ^= by
			if Adler(turned) == adler || Mark(turned) == mark {
				t.Errorf("the same with byte %d turned by %d", at, by)
			}
		}
	}
}

// P2.1: two bytes changed about are another text.
func TestOrderMatters(t *testing.T) {
	if Adler([]byte("ab")) == Adler([]byte("ba")) || Mark([]byte("ab")) == Mark([]byte("ba")) {
		t.Error("ab and ba are the same")
	}
	if Adler([]byte("a"), []byte("b")) == Adler([]byte("b"), []byte("a")) {
		t.Error("rows a, b and b, a are the same")
	}
}

// W2, W6
func TestRowsStay(t *testing.T) {
	room := everyByte()
	rows := [][]byte{room[10:20], nil, room[30:40:50], room[15:35]}
	adler, mark := Adler(rows...), Mark(rows...)
	if Adler(rows...) != adler || Mark(rows...) != mark {
		t.Error("asked again, it answers another number")
	}
	if !bytes.Equal(room, everyByte()) {
		t.Error("the bytes were changed")
	}
	if len(rows) != 4 || len(rows[0]) != 10 || rows[1] != nil || len(rows[2]) != 10 || len(rows[3]) != 20 {
		t.Error("the rows were changed")
	}
}

func FuzzSums(f *testing.F) {
	f.Add([]byte("Wikipedia"), 4)
	f.Add([]byte{}, 0)
	f.Fuzz(func(t *testing.T, text []byte, at int) {
		at = min(max(at, 0), len(text))
		wantSums(t, slowAdler(text), slowMark(text), text[:at], text[at:])
	})
}
