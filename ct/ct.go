// Package ct is layer 1: answers without branches: see shared/doc/01-ct.md.
//
// No branch, no loop and no place in memory hangs on a number or on a byte, so
// that neither time nor reads tell which they were; only lengths may show.
package ct

import "math/bits"

// sign is the bit that tells a signed number's sign.
const sign = 1 << 63

// Less is 1, if a is below b, else 0.
func Less(a, b uint64) uint64 {
	_, borrow := bits.Sub64(a, b, 0)
	return borrow
}

// Below is Less of signed numbers.
func Below(a, b int64) uint64 {
	// With the sign turned over, the signed order is the unsigned one.
	return Less(uint64(a)^sign, uint64(b)^sign)
}

// Same is 1, if a and b are alike, else 0.
func Same(a, b uint64) uint64 {
	// Only 0 has its highest bit clear and that of its negative, too.
	differ := a ^ b
	return 1 ^ (differ|-differ)>>63
}

// Pick is a, if c's lowest bit is 1, else b.
func Pick(c, a, b uint64) uint64 {
	// Negated, the bit is all ones, or none.
	mask := -(c & 1)
	return b ^ mask&(a^b)
}

// Equal is 1, if a and b are as long and alike, else 0.
func Equal(a, b []byte) uint64 {
	if len(a) != len(b) {
		return 0
	}
	// All are looked at, so that nobody learns where the first differs.
	var differ byte
	for i := range len(a) {
		differ |= a[i] ^ b[i]
	}
	return Same(uint64(differ), 0)
}

// Choose is a copy of a, if c's lowest bit is 1, else of b; it is none, if they
// are not as long.
func Choose(c uint64, a, b []byte) []byte {
	if len(a) != len(b) {
		return nil
	}
	// Both are read to their ends, so that nobody learns which was taken.
	chosen := make([]byte, len(a))
	for i := range len(a) {
		chosen[i] = byte(Pick(c, uint64(a[i]), uint64(b[i])))
	}
	return chosen
}
