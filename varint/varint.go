// Package varint is layer 1: numbers as bytes of seven bits.
package varint

import "math/bits"

const (
	group   = 7          // bits of the number in each byte
	more    = 1 << group // what a byte has more when another one follows
	longest = 10         // bytes that hold 64 bits: nine groups, and one bit
)

// Put writes n in as few bytes as can be.
func Put(n uint64) []byte {
	b := make([]byte, 0, Size(n))
	for n >= more {
		b = append(b, byte(n%more+more))
		n >>= group
	}
	return append(b, byte(n))
}

// Size tells how many bytes Put writes.
func Size(n uint64) int {
	// 0 has no bits, but takes a byte as 1 does.
	return (bits.Len64(n|1) + group - 1) / group
}

// Get reads the number that b begins with, and tells how many bytes it has: 0 if there is none.
func Get(b []byte) (uint64, int) {
	var n uint64
	for i, c := range b[:min(len(b), longest)] {
		n |= part(i, c)
		if ends(i, c) {
			return n, i + 1
		}
	}
	return 0, 0
}

// All reads numbers till b is at its end, and tells whether it was all numbers.
func All(b []byte) ([]uint64, bool) {
	var l []uint64
numbers:
	for len(b) > 0 {
		var n uint64
		for i, c := range b[:min(len(b), longest)] {
			n |= part(i, c)
			if ends(i, c) {
				l = append(l, n)
				b = b[i+1:]
				continue numbers
			}
		}
		return nil, false
	}
	return l, true
}

// part is what byte c has of a number whose byte i it is.
func part(i int, c byte) uint64 {
	return uint64(c%more) << (group * i)
}

// ends tells whether c may be a number's last byte, its byte i.
func ends(i int, c byte) bool {
	// In the tenth byte only the lowest bit is one of the 64: a greater byte is of no number.
	return c < more && (i < longest-1 || c <= 1)
}
