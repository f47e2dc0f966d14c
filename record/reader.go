package record

import (
	"weighlock/api"
	"weighlock/nums"
)

// fault is what a reader panics with, so that it is not taken for a panic of another's.
type fault struct{}

// reader reads fields one behind the other, and fails by a panic: so a field's reader need not ask whether the ones ahead were there.
type reader struct {
	bytes string
	at    int
}

// reads tells whether all that is read by readers could be: false is left, where one failed ahead of the end.
func reads(read func()) bool {
	defer func() {
		p := recover()
		if _, failed := p.(fault); p != nil && !failed {
			panic(p) // not the bytes are at fault, but the program
		}
	}()
	read()
	return true
}

// demand fails, if something does not hold.
func demand(holds bool) {
	if !holds {
		panic(fault{})
	}
}

// pass goes on behind a field, that must have been read without an error.
func (r *reader) pass(size int, e api.Errno) {
	demand(e == api.OK)
	r.at += size
}

// number reads a chain. One that is above all of int comes out below 0, which no record has either.
func (r *reader) number() int {
	v, size, e := nums.Unchain(r.bytes[r.at:])
	r.pass(size, e)
	return int(v)
}

// flag reads a yes or no.
func (r *reader) flag() bool {
	n := r.number()
	demand(n == flag(true) || n == flag(false))
	return n == flag(true)
}

// text reads a text with its length.
func (r *reader) text() string {
	s, size, e := nums.Untext(r.bytes[r.at:])
	r.pass(size, e)
	return s
}

// record reads a record that may be.
func (r *reader) record() api.Record {
	var x api.Record
	for _, field := range [...]*int{&x.Offset, &x.Tick, &x.Producer, &x.Seq, &x.From} {
		*field = r.number()
	}
	x.Gone = r.flag()
	x.Key = r.text()
	x.Value = r.text()
	demand(May(x))
	return x
}

// batch reads a batch, of which the bytes are the payload.
func (r *reader) batch() []api.Record {
	demand(len(r.bytes) <= api.MaxPayload)
	var l []api.Record
	for r.at < len(r.bytes) {
		l = append(l, r.record())
	}
	demand(check(l) == api.OK)
	return l
}
