// Package raw is layer 1: see shared/doc/01-raw.md.
package raw

import (
	"girder/api"
)

const (
	feedback = 0x82f63b78 // of CRC-32C, for a register that is shifted right
	maxLong  = 8          // bytes of the longest number
	textLong = 2          // bytes of a text's length
	maxText  = 65535      // bytes of the longest text
)

// Sum is the sum of bytes.
func Sum(s string) uint32 { return More(0, s) }

// More is the sum of more bytes behind others.
func More(sum uint32, s string) uint32 {
	// The sum is the register turned over: turned over again it goes on where it stood.
	register := ^sum
	for i := range len(s) {
		register = shiftByte(register, s[i])
	}
	return ^register
}

// shiftByte is the register behind one more byte.
func shiftByte(register uint32, b byte) uint32 {
	register ^= uint32(b)
	for range 8 {
		out := register & 1
		register >>= 1
		if out == 1 {
			register ^= feedback
		}
	}
	return register
}

// Put is a number's bytes.
func Put(n uint64, long int) string {
	long = min(max(long, 0), maxLong)
	b := make([]byte, long)
	for i := range long {
		b[i] = byte(n >> (8 * i))
	}
	return string(b)
}

// Get is the number of bytes.
func Get(s string, at, long int) (uint64, api.Errno) {
	if long < 0 || long > maxLong || at < 0 || at > len(s) {
		return 0, api.ErrArg
	}
	if long > len(s)-at {
		return 0, api.ErrCut
	}
	var n uint64
	for i := range long {
		n |= uint64(s[at+i]) << (8 * i)
	}
	return n, api.OK
}

// Text is a text in bytes.
func Text(s string) (string, api.Errno) {
	if len(s) > maxText {
		return "", api.ErrMore
	}
	return Put(uint64(len(s)), textLong) + s, api.OK
}
