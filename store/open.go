package store

import (
	"slices"

	"weighlock/api"
	"weighlock/catalog"
	"weighlock/dedup"
	"weighlock/journal"
	"weighlock/offsets"
	"weighlock/part"
	"weighlock/pool"
	"weighlock/release"
	"weighlock/scan"
	"weighlock/seglog"
	"weighlock/segment"
	"weighlock/super"
	"weighlock/view"
)

const (
	supers    = 2     // sectors of a view that are no segment's
	lastEpoch = 65535 // behind it there is none
)

// check tells why a view can't be a store's.
func check(v *view.View, segs int) api.Errno {
	if v == nil {
		return api.ErrState
	}
	if segs < api.MinSegs || segs > api.MaxSegs || v.Size() != supers+api.SegSectors*segs {
		return api.ErrArg
	}
	return api.OK
}

// Format makes a view a store's. The super comes last: without it there is none.
func Format(v *view.View, segs int) api.Errno {
	if e := check(v, segs); e != api.OK {
		return e
	}
	for n := range segs {
		if e := segment.Wipe(v, n); e != api.OK {
			return e
		}
	}
	if e := v.Flush(); e != api.OK {
		return e
	}
	return super.Store(v, super.Super{Seq: 1, Gens: [books]uint32{1, 1, 1}})
}

// Open opens a store.
func Open(v *view.View, segs, tick int) (*Store, api.Errno) {
	s, e := begin(v, segs)
	if e != api.OK {
		return nil, e
	}
	if e := s.find(segs); e != api.OK {
		return nil, e
	}
	if e := s.settle(tick); e != api.OK {
		return nil, e
	}
	return s, api.OK
}

// begin is a store without anything, of an epoch of its own: no stamp of its pool was told before.
func begin(v *view.View, segs int) (*Store, api.Errno) {
	if e := check(v, segs); e != api.OK {
		return nil, e
	}
	x, e := super.Load(v)
	if e != api.OK {
		return nil, e
	}
	if x.Epoch >= lastEpoch {
		return nil, api.ErrFull
	}
	x.Seq++
	x.Epoch++
	if e := super.Store(v, x); e != api.OK {
		return nil, e
	}
	p, e := pool.New(segs, int(x.Epoch))
	if e != api.OK {
		return nil, e
	}
	s := &Store{view: v, super: x, pool: p, catalog: catalog.New(), offsets: offsets.New(), releases: release.New()}
	s.partitions = map[api.Place]*partition{}
	return s, api.OK
}

// find finds all again that lies in the segments, and cleans away all others.
func (s *Store) find(segs int) api.Errno {
	l, e := scan.All(s.view, segs)
	if e != api.OK {
		return e
	}
	kept, e := s.openBooks(l)
	if e != api.OK {
		return e
	}
	for _, p := range s.places() {
		chain, e := s.openPartition(p, l)
		if e != api.OK {
			return e
		}
		kept = append(kept, chain...)
	}
	return scan.Clean(s.view, l, kept)
}

// openBooks opens the journals, and applies their entries; it tells their segments.
func (s *Store) openBooks(l []*segment.Segment) ([]*segment.Segment, api.Errno) {
	var kept []*segment.Segment
	for i, turns := range [books]turning{s.catalog, s.offsets, s.releases} {
		chain, e := s.openBook(i, turns, l)
		if e != api.OK {
			return nil, e
		}
		kept = append(kept, chain...)
	}
	s.sure = s.releases.Done()
	return kept, api.OK
}

// openBook opens a journal, and applies its entries; it tells its segments.
func (s *Store) openBook(i int, turns turning, l []*segment.Segment) ([]*segment.Segment, api.Errno) {
	j, chain, e := journal.Open(s.view, s.pool, i+1, s.super.Gens[i], l)
	if e != api.OK {
		return nil, e
	}
	for _, f := range j.Frames() {
		if turns.Apply(f) != api.OK {
			return nil, api.ErrBroken
		}
	}
	s.books[i] = book{Journal: j, turning: turns}
	return chain, api.OK
}

// openPartition opens a partition, as its meta tells, and what is found of its log; it tells that's segments.
func (s *Store) openPartition(p api.Place, l []*segment.Segment) ([]*segment.Segment, api.Errno) {
	m, e := s.catalog.Meta(p)
	if e != api.OK {
		return nil, e
	}
	log, e := s.logOf(p, m)
	if e != api.OK {
		return nil, e
	}
	chain := scan.Chain(l, log.ID(), log.Gen(), m.Seq)
	if e := log.Adopt(chain); e != api.OK {
		return nil, e
	}
	table, _, e := dedup.Decode(m.Table)
	x := &partition{Part: part.New(), Table: table, Log: log}
	if e != api.OK || !x.read(m) {
		return nil, api.ErrBroken
	}
	s.partitions[p] = x
	return chain, api.OK
}

// logOf is a log without frames, that begins as a partition's meta tells.
func (s *Store) logOf(p api.Place, m catalog.Meta) (*seglog.Log, api.Errno) {
	id, e := s.catalog.Log(p)
	if e != api.OK {
		return nil, e
	}
	return seglog.New(s.view, s.pool, id, uint32(m.Gen), m.Seq)
}

// settle does what the power may have left undone.
func (s *Store) settle(tick int) api.Errno {
	for _, name := range s.lost() {
		if e := s.clear(name); e != api.OK {
			return e
		}
	}
	s.finishAlone(min(s.greatestFrom(), s.releases.Last()))
	if e := s.putPending(tick); e != api.OK {
		return e
	}
	return s.view.Flush()
}

// lost are the names of topics that groups have offsets of, and that are not there, by rising names.
func (s *Store) lost() []string {
	names := s.Names()
	var lost []string
	for _, k := range s.offsets.Keys() {
		if !slices.Contains(names, k.Place.Topic) {
			lost = append(lost, k.Place.Topic)
		}
	}
	slices.Sort(lost)
	return slices.Compact(lost)
}

// greatestFrom is the greatest number of a release that any record has.
func (s *Store) greatestFrom() int {
	most := 0
	for _, x := range s.partitions {
		for _, r := range x.All() {
			most = max(most, r.From)
		}
	}
	return most
}
