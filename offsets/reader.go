package offsets

import (
	"weighlock/api"
	"weighlock/nums"
)

// reader reads fields one behind the other. One that is not there breaks it for good, so that one question behind all of them is enough.
type reader struct {
	bytes  string // those that are left
	broken bool
}

// pass goes on behind a field; one that is not there has no bytes.
func (r *reader) pass(size int, e api.Errno) {
	r.broken = r.broken || e != api.OK
	r.bytes = r.bytes[size:]
}

// number reads a chain. One that is above all of int comes out below 0, which no entry has either.
func (r *reader) number() int {
	v, size, e := nums.Unchain(r.bytes)
	r.pass(size, e)
	return int(v)
}

// text reads a text with its length.
func (r *reader) text() string {
	s, size, e := nums.Untext(r.bytes)
	r.pass(size, e)
	return s
}

// whole tells whether all that was read was there, and nothing stands behind.
func (r *reader) whole() bool { return !r.broken && r.bytes == "" }
