// Package ints is layer 1: whole numbers as bytes, each in one way alone. See shared/doc/01-ints.md.
package ints

import "math/bits"

const (
	bitsPerByte = 7   // bits of the number in one byte
	more        = 128 // what each byte but the last one has more
	longest     = 10  // bytes of the greatest number, 2^64 - 1
	greatest    = 1<<63 - 1
)

// Put tells the bytes of n, and nothing for a number below 0.
func Put(n int) string {
	if n < 0 {
		return ""
	}
	return write(uint64(n))
}

// Get tells the number from 0 to 2^63 - 1 whose bytes stand in s from at on, and the place behind them.
func Get(s string, at int) (n, next int, ok bool) {
	u, next, ok := read(s, at)
	if !ok || u > greatest {
		return 0, 0, false
	}
	return int(u), next, true
}

// PutInt tells the bytes of n's number, whatever the sign of n.
func PutInt(n int) string {
	return write(fold(n))
}

// GetInt tells the int whose number's bytes stand in s from at on, and the place behind them.
func GetInt(s string, at int) (n, next int, ok bool) {
	u, next, ok := read(s, at)
	if !ok {
		return 0, 0, false
	}
	return unfold(u), next, true
}

// fold tells the number of n. One is added ahead of the change of sign, as the least int has no opposite.
func fold(n int) uint64 {
	if n < 0 {
		return 2*uint64(-(n+1)) + 1
	}
	return 2 * uint64(n)
}

// unfold tells the int whose number is u.
func unfold(u uint64) int {
	half := int(u / 2)
	if u%2 == 1 {
		return -half - 1
	}
	return half
}

// size tells how many bytes u has. The number 0 has no bits, but one byte.
func size(u uint64) int {
	return max(1, (bits.Len64(u)+bitsPerByte-1)/bitsPerByte)
}

func write(u uint64) string {
	b := make([]byte, size(u))
	last := len(b) - 1
	for i := range last {
		b[i] = byte(u%more) + more
		u >>= bitsPerByte
	}
	b[last] = byte(u)
	return string(b)
}

func read(s string, at int) (u uint64, next int, ok bool) {
	if at < 0 || at >= len(s) {
		return 0, 0, false
	}
	for i := range min(longest, len(s)-at) {
		b := s[at+i]
		u += uint64(b%more) << (bitsPerByte * i)
		if b >= more {
			continue
		}
		if !mayEnd(i, b) {
			return 0, 0, false
		}
		return u, at + i + 1, true
	}
	return 0, 0, false
}

// mayEnd tells whether b may be the last byte of a number, at the place i of its bytes.
// A 0 there would be a second way to write a shorter number; the tenth byte has room for one bit alone.
func mayEnd(i int, b byte) bool {
	if i == longest-1 {
		return b == 1
	}
	return b != 0 || i == 0
}
