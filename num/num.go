// Package num is layer 1: whole numbers that never wrap unseen, and numbers
// as bytes. See shared/doc/01-num.md.
package num

import "math"

// top is the bit that tells an int64's sign.
const top = 1 << 63

// Add answers a + b, and whether that is an int64 (P1.1).
func Add(a, b int64) (int64, bool) {
	sum := a + b
	// A sum wrapped just if its sign is neither part's sign.
	if (a^sum)&(b^sum) < 0 {
		return 0, false
	}
	return sum, true
}

// Sub answers a - b, and whether that is an int64 (P1.1).
func Sub(a, b int64) (int64, bool) {
	diff := a - b
	// A difference wrapped just if the signs of a and b differ and its own
	// isn't a's.
	if (a^b)&(a^diff) < 0 {
		return 0, false
	}
	return diff, true
}

// Mul answers a * b, and whether that is an int64 (P1.1).
func Mul(a, b int64) (int64, bool) {
	switch b {
	case 0:
		return 0, true
	case -1:
		// The division below wraps at the least number by -1, so it can't
		// tell that this product wrapped.
		return Neg(a)
	}
	product := a * b
	if product/b != a {
		return 0, false
	}
	return product, true
}

// Div answers a / b rounded towards 0, and whether that is an int64 (P1.1).
func Div(a, b int64) (int64, bool) {
	switch b {
	case 0:
		return 0, false
	case -1:
		return Neg(a)
	}
	return a / b, true
}

// Mod answers what a / b leaves, with a's sign, and whether b divides at all
// (P1.1). The least number by -1 leaves 0, though its quotient is no int64.
func Mod(a, b int64) (int64, bool) {
	if b == 0 {
		return 0, false
	}
	return a % b, true
}

// Neg answers -a, and whether that is an int64 (P1.1).
func Neg(a int64) (int64, bool) {
	if a == math.MinInt64 {
		return 0, false
	}
	return -a, true
}

// Zig answers 2n for n from 0 on, else -2n - 1: small numbers of either sign
// stay small (P1.2).
func Zig(n int64) uint64 {
	// n >> 63 is all ones below 0, and -2n - 1 is 2n with all its bits turned.
	return uint64(n)<<1 ^ uint64(n>>63)
}

// Zag turns Zig back (P1.2).
func Zag(u uint64) int64 {
	return int64(u>>1) ^ -int64(u&1)
}

// Flip answers n + 2^63: greater numbers stay greater (P1.2).
func Flip(n int64) uint64 {
	return uint64(n) ^ top
}

// Unflip turns Flip back (P1.2).
func Unflip(u uint64) int64 {
	return int64(u ^ top)
}

// Put answers the lowest size bytes of u, the highest ahead; nothing, if size
// isn't from 0 to 8 (P1.3).
func Put(u uint64, size int) []byte {
	if size < 0 || size > 8 {
		return nil
	}
	b := make([]byte, size)
	for i := range size {
		b[size-1-i] = byte(u >> (8 * i))
	}
	return b
}

// Of answers the number whose bytes are the last 8 of b, the highest ahead; of
// fewer bytes, all (P1.3).
func Of(b []byte) uint64 {
	last := b[max(0, len(b)-8):]
	var u uint64
	for i := range len(last) {
		u = u<<8 | uint64(last[i])
	}
	return u
}

// Fits answers whether n is from -2^(bits-1) to 2^(bits-1) - 1; it is false,
// if bits isn't from 1 to 64 (P1.4).
func Fits(n int64, bits int) bool {
	if bits < 1 || bits > 64 {
		return false
	}
	// What lies above the number's own bits must be its sign alone.
	rest := n >> (bits - 1)
	return rest == 0 || rest == -1
}
