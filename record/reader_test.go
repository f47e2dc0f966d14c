package record

import (
	"testing"

	"weighlock/api"
)

// panics are what a function panics with; nil, if it does not.
func panics(do func()) (with any) {
	defer func() { with = recover() }()
	do()
	return nil
}

// Promise 16.2: what is read fails by a fault, which is caught where the reading began, and nowhere else.
func TestFaultsAreCaught(t *testing.T) {
	from := reader{bytes: "\x00\x00"}
	if p := panics(func() { from.record() }); p != (fault{}) {
		t.Errorf("a record that is not there: %v", p)
	}
	from = reader{bytes: "\x00\x00"}
	if reads(func() { from.batch() }) {
		t.Error("a batch that is not there was read")
	}
	if !reads(func() {}) || !reads(func() { from = reader{bytes: lay(api.Record{})}; from.batch() }) {
		t.Error("what is there was not read")
	}
}

// A panic that is no fault of the bytes is not taken for one: a fault of the program would be told as one of what it was given.
func TestOtherPanicsGoOn(t *testing.T) {
	for _, other := range []any{"fault", 4, api.ErrForm} {
		if p := panics(func() { reads(func() { panic(other) }) }); p != other {
			t.Errorf("%v, not %v", p, other)
		}
	}
}
