package store

import (
	"weighlock/api"
	"weighlock/catalog"
	"weighlock/compact"
	"weighlock/journal"
	"weighlock/retain"
	"weighlock/seglog"
	"weighlock/super"
)

// leftOut is the error of a step that is left out where there is no room.
func leftOut(e api.Errno) api.Errno {
	if e == api.ErrPool {
		return api.OK
	}
	return e
}

// Task does what is done aside.
func (s *Store) Task(tick int) api.Errno {
	if s == nil {
		return api.ErrState
	}
	if e := s.putPending(tick); e != api.OK || s.isPending() {
		return e
	}
	if e := s.tidy(tick); e != api.OK {
		return e
	}
	for i := range s.books {
		if e := leftOut(s.shorten(i)); e != api.OK {
			return e
		}
	}
	return api.OK
}

// tidy lets go what has to, of the partition whose turn it is.
func (s *Store) tidy(tick int) api.Errno {
	l := s.places()
	if len(l) == 0 {
		return api.OK
	}
	at := s.turn % len(l)
	s.turn = (at + 1) % len(l)
	p := l[at]
	spec, e := s.catalog.Spec(p.Topic)
	if e != api.OK {
		return e
	}
	if e := leftOut(s.letAge(p, spec, tick)); e != api.OK {
		return e
	}
	return leftOut(s.letKeys(p, spec, tick))
}

// letAge lets go what goes by age and size. The records are there till the meta is sure.
func (s *Store) letAge(p api.Place, spec api.Spec, tick int) api.Errno {
	if spec.Age == 0 && spec.Size == 0 {
		return api.OK
	}
	x := s.partitions[p]
	start := retain.Start(x.All(), x.Part.Next(), tick, spec.Age, spec.Size)
	if start <= x.Start() {
		return api.OK
	}
	m := x.meta()
	m.Start, m.Seq = start, x.firstFrame(start)
	entry, e := s.catalog.Put(p, m)
	if e != api.OK {
		return e
	}
	if e := s.finish(); e != api.OK {
		return e
	}
	if e := s.putSure(catalogBook, entry); e != api.OK {
		return e
	}
	if e := x.Trim(start); e != api.OK {
		return e
	}
	return x.Drop(m.Seq)
}

// letKeys lets go what goes by keys. The old log is there till the meta is sure.
func (s *Store) letKeys(p api.Place, spec api.Spec, tick int) api.Errno {
	if !spec.Compact {
		return api.OK
	}
	dead := 0
	if spec.Age != 0 {
		dead = max(tick, 0) - spec.Age
	}
	x := s.partitions[p]
	all := x.All()
	if 2*compact.Garbage(all, dead) <= len(all) {
		return api.OK
	}
	kept := compact.Keep(all, dead)
	frames := packed(kept)
	if s.Free()-journal.Need(frames) <= api.Reserve {
		return api.OK
	}
	m := x.meta()
	m.Gen = s.catalog.Count() + 1
	other, e := s.layAnew(p, m, frames)
	if e != api.OK {
		return e
	}
	old := x.Log
	x.Log = other
	if e := x.Replace(kept); e != api.OK {
		return e
	}
	return old.Free()
}

// layAnew is another log of a partition, with frames, of which the catalog knows by a meta.
func (s *Store) layAnew(p api.Place, m catalog.Meta, frames []api.Frame) (*seglog.Log, api.Errno) {
	entry, e := s.catalog.Put(p, m)
	if e != api.OK { // behind the last gen there is none
		return nil, api.ErrPool
	}
	if e := s.finish(); e != api.OK {
		return nil, e
	}
	other, e := s.logOf(p, m)
	if e != api.OK {
		return nil, e
	}
	e = s.fill(other, frames)
	if e == api.OK {
		e = s.putSure(catalogBook, entry)
	}
	if e != api.OK {
		other.Free() // what it took is free again; that fails for want of power alone, and what is told is the first error
		return nil, e
	}
	return other, api.OK
}

// fill puts frames into a log, and flushes.
func (s *Store) fill(log *seglog.Log, frames []api.Frame) api.Errno {
	for _, f := range frames {
		if _, e := log.Append(f); e != api.OK {
			return e
		}
	}
	return s.view.Flush()
}

// shorten writes a journal anew that has grown, if that is worth it. The old one is there till the super is sure.
func (s *Store) shorten(i int) api.Errno {
	b := &s.books[i]
	if !b.Grown() {
		return api.OK
	}
	l := b.Snapshot()
	if !b.isWorth(l, s.Free()) {
		return api.OK
	}
	other, e := b.Anew(l)
	if e != api.OK {
		return e
	}
	if e := s.view.Flush(); e != api.OK {
		return e
	}
	next := s.super
	next.Seq++
	next.Gens[i] = other.Gen()
	if e := super.Store(s.view, next); e != api.OK {
		return e
	}
	s.super = next
	s.written(i)
	old := b.Journal
	b.Journal = other
	return old.Free()
}

// written notes that a journal was written anew: it tells what there is, and nothing that is gone.
func (s *Store) written(i int) {
	switch i {
	case offsetsBook:
		s.owed = nil
	case releasesBook:
		s.sure = s.releases.Done()
	}
}
