// Package sums is layer 2, sums by which bytes are known again: see shared/doc/02-sums.md.
package sums

const (
	bitsOfByte  = 8
	polynomial  = 0xedb88320
	digestBegin = 0xcbf29ce484222325
	digestTimes = 0x100000001b3
)

// Crc is the CRC of bytes, from a beginning on.
func Crc(begin uint32, s string) uint32 {
	register := ^begin
	for i := range len(s) {
		register = shiftOut(register ^ uint32(s[i]))
	}
	return ^register
}

// shiftOut lets a byte's bits out of the register, one at a time.
func shiftOut(register uint32) uint32 {
	for range bitsOfByte {
		out := register & 1
		register >>= 1
		if out == 1 {
			register ^= polynomial
		}
	}
	return register
}

// Digest is the digest of bytes.
func Digest(s string) uint64 {
	v := uint64(digestBegin)
	for i := range len(s) {
		v = (v ^ uint64(s[i])) * digestTimes
	}
	return v
}

// Sum is the CRC of bytes that come piece by piece. As a CRC is a beginning for what follows, it keeps that alone.
type Sum struct{ value uint32 }

// New is a sum of no bytes.
func New(begin uint32) *Sum { return &Sum{value: begin} }

// Add adds bytes behind all that were added.
func (x *Sum) Add(s string) {
	if x == nil {
		return
	}
	x.value = Crc(x.value, s)
}

// Value is the CRC of all bytes.
func (x *Sum) Value() uint32 {
	if x == nil {
		return 0
	}
	return x.value
}
