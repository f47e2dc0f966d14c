// Package nums is layer 1, numbers as bytes: see shared/doc/01-nums.md.
package nums

import (
	"math/bits"
	"strings"

	"weighlock/api"
)

const (
	word      = 64 // bits of a number
	mostFixed = 8  // bytes of a number
	mostLinks = 10 // bytes of a chain: 64 bits, seven at a time
	more      = 0x80
	lastLink  = 1 // nine bytes leave one bit for the tenth
)

// Fixed is a number as n bytes, the highest one first.
func Fixed(v uint64, n int) (string, api.Errno) {
	if n < 1 || n > mostFixed || v != Low(v, 8*n) {
		return "", api.ErrArg
	}
	var laid [mostFixed]byte
	for i := range n {
		laid[n-1-i] = byte(v >> (8 * i))
	}
	return string(laid[:n]), api.OK
}

// Read is the number of 1 to 8 bytes.
func Read(s string) (uint64, api.Errno) {
	if len(s) < 1 || len(s) > mostFixed {
		return 0, api.ErrArg
	}
	v := uint64(0)
	for i := range len(s) {
		v = v<<8 | uint64(s[i])
	}
	return v, api.OK
}

// Chain is a number as a chain.
func Chain(v uint64) string {
	var laid [mostLinks]byte
	last := links(v) - 1
	for i := range last {
		laid[i] = byte(v) | more
		v >>= 7
	}
	laid[last] = byte(v)
	return string(laid[:last+1])
}

// links is how many bytes the chain of v has: 0 has one too, though it has no bits.
func links(v uint64) int {
	return max(1, (bits.Len64(v)+6)/7)
}

// Unchain is the number of the chain with which s begins, and how many bytes that has.
func Unchain(s string) (uint64, int, api.Errno) {
	v := uint64(0)
	for i := range min(len(s), mostLinks) {
		b := s[i]
		if i == mostLinks-1 && b > lastLink {
			return 0, 0, api.ErrForm
		}
		v |= uint64(b&^more) << (7 * i)
		if b >= more {
			continue
		}
		if b == 0 && i > 0 { // fewer bytes would do, and a number has but one chain
			return 0, 0, api.ErrForm
		}
		return v, i + 1, api.OK
	}
	return 0, 0, api.ErrShort
}

// Fold folds a signed number.
func Fold(v int64) uint64 {
	turn := uint64(v >> (word - 1)) // all bits, if v is below 0; else none
	return uint64(v)<<1 ^ turn
}

// Unfold is the signed number that was folded.
func Unfold(v uint64) int64 {
	turn := -(v & 1) // all bits, if v is odd; else none
	return int64(v>>1 ^ turn)
}

// Low are the low n bits of a number.
func Low(v uint64, n int) uint64 {
	kept := min(max(n, 0), word)
	return v & (uint64(1)<<kept - 1) // 1 shifted by 64 is 0, which leaves all bits
}

// Signed are the low n bits of a number, read with a sign.
func Signed(v uint64, n int) int64 {
	beyond := word - min(max(n, 1), word)
	return int64(v<<beyond) >> beyond // what comes in on the way back is the sign
}

// Text is a text with its length.
func Text(s string) string { return Chain(uint64(len(s))) + s }

// Untext is the text with which s begins, and how many bytes it has with its length.
func Untext(s string) (string, int, api.Errno) {
	told, from, e := Unchain(s)
	if e != api.OK {
		return "", 0, e
	}
	if told > api.MaxInt {
		return "", 0, api.ErrLong
	}
	if told > uint64(len(s)-from) {
		return "", 0, api.ErrShort
	}
	to := from + int(told)
	return strings.Clone(s[from:to]), to, api.OK // a mere piece would keep all of s
}
