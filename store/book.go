package store

import (
	"weighlock/api"
	"weighlock/journal"
)

// The books, in the order of the super's gens. A journal's number is one more.
const (
	catalogBook = iota
	offsetsBook
	releasesBook
	books
)

// turning is what turns by entries.
type turning interface {
	Apply(f api.Frame) api.Errno
	Snapshot() []api.Frame
}

// book is a journal, and what turns by its entries.
type book struct {
	*journal.Journal
	turning
}

// put puts an entry: what can't be appended turns nothing.
func (b book) put(f api.Frame) api.Errno {
	if e := b.Append(f); e != api.OK {
		return e
	}
	return b.Apply(f)
}

// isWorth tells whether entries need fewer segments than it has, and no more than are free.
func (b book) isWorth(l []api.Frame, free int) bool {
	need := journal.Need(l)
	return need < b.Segments() && need <= free
}
