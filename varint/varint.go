// Package varint is numbers, small ones short: see DOC.md, chapter 1.
package varint

const (
	digits = 7           // binary digits of the number in a byte
	more   = 1 << digits // the bit that says another byte follows
	most   = 10          // bytes that the greatest number has
)

// Put is v as bytes, the lowest seven binary digits first.
func Put(v uint64) []byte {
	b := make([]byte, 0, most)
	for v >= more {
		b = append(b, byte(v)|more)
		v >>= digits
	}
	return append(b, byte(v))
}

// Get is the number that b begins with, and how many bytes it has; false if b
// does not begin with what Put answers for some number.
func Get(b []byte) (v uint64, n int, ok bool) {
	for i, c := range b {
		if i == most-1 && c > 1 {
			// Nine bytes hold 63 of the 64 digits, so the tenth has room for
			// one; this refuses an eleventh byte too, as c > 1 if more is set.
			return 0, 0, false
		}
		v |= uint64(c&(more-1)) << (digits * i)
		if c >= more {
			continue
		}
		if c == 0 && i > 0 {
			// Put would have stopped a byte before.
			return 0, 0, false
		}
		return v, i + 1, true
	}
	return 0, 0, false
}

// Zig is a number without a sign, near 0 if v is.
func Zig(v int64) uint64 {
	// The shift by 63 is all ones for a negative v, and turning all digits of
	// 2v is then -2v-1, without a step that could leave 64 digits.
	return uint64(v)<<1 ^ uint64(v>>63)
}

// Zag is the number that Zig made v of.
func Zag(v uint64) int64 {
	return int64(v>>1) ^ -int64(v&1)
}
