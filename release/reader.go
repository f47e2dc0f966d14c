package release

import (
	"weighlock/api"
	"weighlock/nums"
)

// reader reads fields one behind the other. It tells no fault: what is read is laid anew, and held against the bytes as a whole. So a field that is not there may be read as anything.
type reader struct {
	bytes string // those that are left
}

// pass goes on behind so many bytes, as far as there are any.
func (r *reader) pass(size int) string {
	size = min(size, len(r.bytes))
	passed := r.bytes[:size]
	r.bytes = r.bytes[size:]
	return passed
}

// number reads a chain. One that is above all of int comes out below 0, which no entry has.
func (r *reader) number() int {
	v, size, _ := nums.Unchain(r.bytes)
	r.pass(size)
	return int(v)
}

// text reads a text with its length.
func (r *reader) text() string {
	s, size, _ := nums.Untext(r.bytes)
	r.pass(size)
	return s
}

// place reads a place.
func (r *reader) place() api.Place { return api.Place{Topic: r.text(), Part: r.number()} }

// pair reads a pair, behind its digest.
func (r *reader) pair() api.Pair {
	r.pass(digestBytes)
	return api.Pair{Gone: r.pass(len(tombstone)) == tombstone, Key: r.text(), Value: r.text()}
}

// release reads a release.
func (r *reader) release() Release {
	return Release{
		Number: r.number(),
		Rule:   r.number(),
		Label:  r.number(),
		Source: r.place(),
		Offset: r.number(),
		Target: r.place(),
		Pair:   r.pair(),
	}
}
