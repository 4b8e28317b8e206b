package frame

import (
	"bytes"
	"encoding/binary"
	"hash/adler32"
	"math"
	"math/rand"
	"testing"

	"emissary/api"
)

// lengths is the edges of a body's length: those at which the length's own
// bytes grow, and the greatest.
var lengths = []int{0, 1, 2, 126, 127, 128, 129, 255, 256, 1000, 3999, api.MaxBody}

// sealed is head with its sum behind it, by the library.
func sealed(head []byte) []byte {
	return binary.BigEndian.AppendUint32(bytes.Clone(head), adler32.Checksum(head))
}

// wantFrame is a frame as the document says it, by the library.
func wantFrame(kind byte, body []byte) []byte {
	head := binary.AppendUvarint([]byte{kind}, uint64(len(body)))
	return sealed(append(head, body...))
}

// someBytes is n bytes, the same ones for the same n.
func someBytes(n int) []byte {
	text := make([]byte, n)
	rand.New(rand.NewSource(int64(n))).Read(text)
	return text
}

// bodies is bodies of all the lengths, of one byte over and over and of many.
func bodies() [][]byte {
	all := [][]byte{nil}
	for _, n := range lengths {
		all = append(all, someBytes(n), make([]byte, n), bytes.Repeat([]byte{255}, n))
	}
	return all
}

// few is what a message tells of b.
func few(b []byte) []byte { return b[:min(len(b), 40)] }

func put(t *testing.T, kind byte, body []byte) []byte {
	t.Helper()
	b, ok := Put(kind, body)
	if want := wantFrame(kind, body); !ok || !bytes.Equal(b, want) {
		t.Fatalf("Put(%d, %d bytes): %v, %v, want %v, true", kind, len(body), few(b), ok, few(want))
	}
	return b
}

func wantGet(t *testing.T, b []byte, kind byte, body []byte, n int) {
	t.Helper()
	k, x, m, ok := Get(b)
	if !ok || k != kind || !bytes.Equal(x, body) || m != n {
		t.Errorf("Get(%v): %d, %v, %d, %v, want %d, %v, %d, true", few(b), k, few(x), m, ok, kind, few(body), n)
	}
}

func wantNone(t *testing.T, b []byte) {
	t.Helper()
	if k, x, n, ok := Get(b); ok || k != 0 || len(x) != 0 || n != 0 {
		t.Errorf("Get(%v): %d, %v, %d, %v, want 0, nil, 0, false", few(b), k, few(x), n, ok)
	}
}

// P3.1
func TestKnownFrames(t *testing.T) {
	for _, x := range []struct {
		kind byte
		body []byte
		want []byte
	}{
		{1, nil, []byte{1, 0, 0, 4, 0, 2}},
		{0, []byte{}, []byte{0, 0, 0, 2, 0, 1}},
		{255, nil, []byte{255, 0, 2, 0, 1, 0}},
		{2, []byte{7}, []byte{2, 1, 7, 0, 18, 0, 11}},
		{'W', []byte("ikipedia"), []byte{'W', 8, 'i', 'k', 'i', 'p', 'e', 'd', 'i', 'a', 0x12, 0x86, 0x03, 0xa0}},
	} {
		b, ok := Put(x.kind, x.body)
		if !ok || !bytes.Equal(b, x.want) {
			t.Errorf("Put(%d, %v): %v, %v, want %v, true", x.kind, x.body, b, ok, x.want)
		}
		wantGet(t, x.want, x.kind, x.body, len(x.want))
	}
}

// P3.1
func TestEveryLength(t *testing.T) {
	for n := range api.MaxBody + 1 {
		body := someBytes(n)
		b := put(t, 3, body)
		wantGet(t, b, 3, body, len(b))
	}
}

// P3.1
func TestEveryKind(t *testing.T) {
	for kind := range 256 {
		for _, body := range bodies() {
			b := put(t, byte(kind), body)
			wantGet(t, b, byte(kind), body, len(b))
		}
	}
}

// P3.1: the length's own bytes are one up to 127, two above.
func TestFrameLength(t *testing.T) {
	for n, want := range map[int]int{0: 6, 1: 7, 127: 133, 128: 135, api.MaxBody: api.MaxBody + 7} {
		if b := put(t, 1, make([]byte, n)); len(b) != want {
			t.Errorf("a frame of %d bytes has %d, want %d", n, len(b), want)
		}
	}
}

// P3.1, W3
func TestBodyTooLong(t *testing.T) {
	for _, n := range []int{api.MaxBody + 1, api.MaxBody + 2, 2 * api.MaxBody, 1 << 14, 1 << 16, 1 << 20} {
		for _, kind := range []byte{0, 1, 255} {
			if b, ok := Put(kind, make([]byte, n)); ok || len(b) != 0 {
				t.Errorf("Put(%d, %d bytes): %d bytes, %v, want nil, false", kind, n, len(b), ok)
			}
		}
	}
}

// P3.1
func TestWhateverStandsBehind(t *testing.T) {
	for _, body := range bodies() {
		b := put(t, 9, body)
		for _, more := range [][]byte{{}, {0}, {255}, {1, 2, 3}, b, b[:len(b)-1], make([]byte, 5000)} {
			wantGet(t, append(bytes.Clone(b), more...), 9, body, len(b))
		}
	}
}

// P3.1: frames that stand one behind the other are read one by one.
func TestFramesInARow(t *testing.T) {
	var row []byte
	for i, body := range bodies() {
		row = append(row, put(t, byte(i), body)...)
	}
	for i, body := range bodies() {
		wantGet(t, row, byte(i), body, len(wantFrame(byte(i), body)))
		_, _, n, _ := Get(row)
		row = row[n:]
	}
	wantNone(t, row)
}

// P3.1
func TestNothing(t *testing.T) {
	wantNone(t, nil)
	wantNone(t, []byte{})
	for c := range 256 {
		wantNone(t, []byte{byte(c)})
	}
}

// P3.1: what is cut off still stands in the room behind the list's end, where
// it must not be read.
func TestCutShort(t *testing.T) {
	for _, body := range bodies() {
		b := put(t, 1, body)
		for cut := range b {
			wantNone(t, b[:cut])
			wantNone(t, bytes.Clone(b[:cut]))
		}
	}
}

// P3.1: the sum fits, and the length is the body's, but Put writes it shorter.
func TestLengthNotInItsLeastForm(t *testing.T) {
	for _, length := range [][]byte{
		{128, 0}, {128, 128, 0}, {128, 128, 128, 128, 128, 128, 128, 128, 128, 0},
	} {
		wantNone(t, sealed(append([]byte{1}, length...)))
	}
	for n := 1; n < 300; n++ {
		short := binary.AppendUvarint(nil, uint64(n))
		for more := 1; more < 10; more++ {
			long := bytes.Clone(short)
			long[len(long)-1] |= 128
			for range more - 1 {
				long = append(long, 128)
			}
			long = append(long, 0)
			wantNone(t, sealed(append(append([]byte{1}, long...), make([]byte, n)...)))
		}
	}
}

// P3.1: the length is its body's and the sum fits, but Put makes no such frame.
func TestLengthTooGreat(t *testing.T) {
	for _, n := range []int{api.MaxBody + 1, api.MaxBody + 2, 2 * api.MaxBody, 1<<14 - 1, 1 << 14, 1 << 16, 1 << 20} {
		wantNone(t, wantFrame(1, someBytes(n)))
	}
}

// P3.1, W1: lengths that an int has no room for, or that would come to an end
// ahead of their start.
func TestLengthFarTooGreat(t *testing.T) {
	for _, v := range []uint64{
		1<<31 - 1, 1 << 31, 1<<32 - 1, 1 << 32, 1<<32 + 1, math.MaxInt64 - 20, math.MaxInt64 - 1, math.MaxInt64,
		1 << 63, 1<<63 + 1, math.MaxUint64 - 20, math.MaxUint64 - 6, math.MaxUint64 - 4, math.MaxUint64 - 1, math.MaxUint64,
	} {
		head := binary.AppendUvarint([]byte{1}, v)
		wantNone(t, head)
		wantNone(t, sealed(head))
		wantNone(t, append(sealed(head), make([]byte, 5000)...))
		// The low digits of the length alone would fit this body.
		wantNone(t, sealed(append(bytes.Clone(head), make([]byte, v&0xff)...)))
	}
	for _, length := range [][]byte{
		bytes.Repeat([]byte{255}, 9), bytes.Repeat([]byte{255}, 10), bytes.Repeat([]byte{128}, 20),
		append(bytes.Repeat([]byte{128}, 9), 2), append(bytes.Repeat([]byte{128}, 10), 0),
	} {
		wantNone(t, sealed(append([]byte{1}, length...)))
	}
}

// P3.1: a length that is a byte more or less than its body has.
func TestLengthOfAnotherBody(t *testing.T) {
	for _, n := range []int{1, 5, 127, 128, 1000} {
		for _, by := range []int{-1, 1} {
			head := binary.AppendUvarint([]byte{1}, uint64(n+by))
			wantNone(t, sealed(append(head, bytes.Repeat([]byte{7}, n)...)))
		}
	}
}

// P3.1
func TestSumThatDoesNotFit(t *testing.T) {
	for _, body := range [][]byte{nil, {0}, []byte("some body"), someBytes(127), someBytes(128), someBytes(api.MaxBody)} {
		b := put(t, 9, body)
		for at := len(b) - 4; at < len(b); at++ {
			for by := 1; by < 256; by++ {
				wantNone(t, turned(b, at, byte(by)))
			}
		}
		end := len(b) - 4
		s := binary.BigEndian.Uint32(b[end:])
		wantNone(t, binary.BigEndian.AppendUint32(bytes.Clone(b[:end]), s+1))
		wantNone(t, binary.LittleEndian.AppendUint32(bytes.Clone(b[:end]), s))
		wantNone(t, binary.BigEndian.AppendUint32(bytes.Clone(b[:end]), adler32.Checksum(body)))
	}
}

func turned(b []byte, at int, by byte) []byte {
	x := bytes.Clone(b)
	x[at] ^= by
	return x
}

// P3.2
func TestOneByteOfBodyTurned(t *testing.T) {
	for _, body := range [][]byte{{0}, {255}, []byte("some body"), someBytes(127), someBytes(128), make([]byte, 300)} {
		b := put(t, 9, body)
		start := len(b) - 4 - len(body)
		for at := range body {
			for by := 1; by < 256; by++ {
				x := turned(b, start+at, byte(by))
				wantNone(t, x)
				wantNone(t, append(x, 1, 2, 3))
			}
		}
	}
	b := put(t, 9, someBytes(api.MaxBody))
	for at := 3; at < len(b)-4; at++ {
		for _, by := range []byte{1, 128, 255} {
			wantNone(t, turned(b, at, by))
		}
	}
}

// P3.1: the sum is of the kind too.
func TestKindTurned(t *testing.T) {
	b := put(t, 9, []byte("some body"))
	for by := 1; by < 256; by++ {
		wantNone(t, turned(b, 0, byte(by)))
	}
}

// filled changes all of b, its spare room too.
func filled(b []byte) {
	b = b[:cap(b)]
	for i := range b {
		b[i] = 0xee
	}
}

// P3.2, W6, W7
func TestPutIsNewMemory(t *testing.T) {
	for _, n := range lengths {
		room := someBytes(n + 50)
		was := bytes.Clone(room)
		body := room[:n]
		want := wantFrame(5, body)
		first, second := put(t, 5, body), put(t, 5, body)
		filled(first)
		if !bytes.Equal(room, was) {
			t.Errorf("%d bytes: the body is changed, or the room behind it", n)
		}
		if !bytes.Equal(second, want) {
			t.Errorf("%d bytes: another answer is changed", n)
		}
		filled(room)
		if !bytes.Equal(second, want) {
			t.Errorf("%d bytes: the answer hangs on the body", n)
		}
		wantGet(t, second, 5, was[:n], len(want))
	}
}

// P3.2, W6, W7
func TestGetIsNewMemory(t *testing.T) {
	for _, n := range lengths {
		body := someBytes(n)
		room := append(put(t, 5, body), someBytes(50)...)
		was := bytes.Clone(room)
		b := room[:len(room)-50]
		_, first, _, _ := Get(b)
		_, second, _, _ := Get(b)
		filled(first)
		if !bytes.Equal(room, was) {
			t.Errorf("%d bytes: the frame is changed, or the room behind it", n)
		}
		if !bytes.Equal(second, body) {
			t.Errorf("%d bytes: another answer is changed", n)
		}
		wantGet(t, b, 5, body, len(b))
		filled(room)
		if !bytes.Equal(second, body) {
			t.Errorf("%d bytes: the answer hangs on the frame", n)
		}
	}
}

// W6: refused, bytes stay as they are too.
func TestRefusedStays(t *testing.T) {
	b := turned(put(t, 5, []byte("some body")), 4, 1)
	was := bytes.Clone(b)
	wantNone(t, b)
	wantNone(t, b[:8])
	if !bytes.Equal(b, was) {
		t.Error("the bytes were changed")
	}
	long := someBytes(api.MaxBody + 1)
	Put(1, long)
	if !bytes.Equal(long, someBytes(api.MaxBody+1)) {
		t.Error("the body was changed")
	}
}

// What Get answers is what Put makes, and what Put makes is what Get answers.
func FuzzGet(f *testing.F) {
	f.Add([]byte{})
	f.Add([]byte{1, 0, 0, 4, 0, 2})
	f.Add(wantFrame(9, []byte("some body")))
	f.Add(wantFrame(9, make([]byte, 128)))
	f.Add(sealed([]byte{1, 128, 0}))
	f.Fuzz(func(t *testing.T, b []byte) {
		kind, body, n, ok := Get(b)
		if !ok {
			wantNone(t, b)
		} else if n > len(b) || !bytes.Equal(b[:n], put(t, kind, body)) {
			t.Errorf("Get(%v): %d, %v, %d, which Put does not make", b, kind, body, n)
		}
		if len(b) > 0 && len(b)-1 <= api.MaxBody {
			x := put(t, b[0], b[1:])
			wantGet(t, append(bytes.Clone(x), b...), b[0], b[1:], len(x))
		}
	})
}
