// Package word is layer 1: whole numbers and bytes, with care at their limits. See shared/doc/01-word.md.
package word

import "math/bits"

// The limits.
const (
	Most  = 1<<63 - 1
	Least = -1 << 63
)

// Clamp: a number, held within two others; the lesser one, where they are turned round.
func Clamp(n, low, high int64) int64 {
	if n < low || high < low {
		return low
	}
	return min(n, high)
}

// Add: of two, held at the limits.
func Add(a, b int64) int64 {
	if b > 0 && a > Most-b {
		return Most
	}
	if b < 0 && a < Least-b {
		return Least
	}
	return a + b
}

// Sub: of two, held at the limits.
func Sub(a, b int64) int64 {
	if b < 0 && a > Most+b {
		return Most
	}
	if b > 0 && a < Least+b {
		return Least
	}
	return a - b
}

// Sum: of many, one behind the other, held at the limits.
func Sum(list ...int64) int64 {
	var s int64
	for _, n := range list {
		s = Add(s, n)
	}
	return s
}

// Abs: without its sign; the least one's is the greatest number.
func Abs(n int64) int64 {
	if n < 0 {
		return Sub(0, n)
	}
	return n
}

// Mul: of two, held at the limits.
func Mul(a, b int64) int64 {
	high, low := Wide(a, b)
	n := int64(low)
	if high == n>>63 { // nothing but the sign stands above the low half: it fits
		return n
	}
	if high < 0 {
		return Least
	}
	return Most
}

// Wide: the product of two, as a number of 128 bits.
func Wide(a, b int64) (int64, uint64) {
	high, low := bits.Mul64(uint64(a), uint64(b))
	// As a word a number below 0 is 2^64 too much: the other one stands once too often in the high half.
	if a < 0 {
		high -= uint64(b)
	}
	if b < 0 {
		high -= uint64(a)
	}
	return int64(high), low
}

// Abs64: without its sign, as a word.
func Abs64(n int64) uint64 {
	if n < 0 {
		return -uint64(n) // goes round, so that the least number's is 2^63
	}
	return uint64(n)
}

// Floor: a quotient, rounded down; 0 by 0.
func Floor(a, b int64) int64 {
	if b == 0 {
		return 0
	}
	if a == Least && b == -1 { // the one quotient that is above Most
		return Most
	}
	q := a / b
	if uneven(a, b) {
		q--
	}
	return q
}

// Rest: what a quotient that is rounded down leaves; 0 of the least number by -1, whose quotient isn't held here.
func Rest(a, b int64) int64 {
	if b == 0 {
		return 0
	}
	r := a % b
	if uneven(a, b) {
		r += b
	}
	return r
}

// uneven: is the quotient, as Go rounds it toward 0, above the true one? b isn't 0.
func uneven(a, b int64) bool {
	return a%b != 0 && (a < 0) != (b < 0)
}

// Put16, Put32, Put64: bytes of a word, the highest first.
func Put16(out []byte, w uint16) []byte { return put(out, uint64(w), 2) }

// Put32: four of them.
func Put32(out []byte, w uint32) []byte { return put(out, uint64(w), 4) }

// Put64: eight of them.
func Put64(out []byte, w uint64) []byte { return put(out, w, 8) }

// put: a new list each time, for append would write into the spare room of the one that was handed in.
func put(out []byte, w uint64, size int) []byte {
	list := make([]byte, len(out)+size)
	tail := list[copy(list, out):]
	for i := range tail {
		tail[i] = byte(w >> (8 * (size - 1 - i)))
	}
	return list
}

// Get: the word of up to eight bytes, the highest first.
func Get(data ...byte) uint64 {
	var w uint64
	for _, b := range data[:min(len(data), 8)] {
		w = w<<8 | uint64(b)
	}
	return w
}

// Behind: how far a number of 32 bits is behind another one, going round.
func Behind(a, b uint32) int { return int(int32(a - b)) }

// Newer: is a number of 32 bits the newer one, going round?
func Newer(a, b uint32) bool { return Behind(a, b) > 0 }

// Log: how many bits a word needs.
func Log(w uint64) int { return bits.Len64(w) }

// Root: the greatest number whose square isn't above a word.
func Root(w uint64) uint64 {
	var root uint64
	for bit := uint64(1) << 31; bit > 0; bit >>= 1 {
		if n := root | bit; n*n <= w { // n is below 2^32, so its square fits
			root = n
		}
	}
	return root
}
