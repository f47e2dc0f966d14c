package store

import (
	"weighlock/api"
	"weighlock/release"
)

// isPending tells whether a release is pending.
func (s *Store) isPending() bool { return s.releases.Done() < s.releases.Last() }

// finishAlone lets the releases up to a number be done, if they are not, without an entry: behind a crash the records tell it, as long as they are there.
func (s *Store) finishAlone(n int) {
	if entry, e := s.releases.Finish(n); e == api.OK {
		s.releases.Apply(entry)
	}
}

// finish finishes releases: what tells that they are done is sure, ahead of what lets their records go.
func (s *Store) finish() api.Errno {
	last := s.releases.Last()
	if s.sure >= last || s.isPending() {
		return api.OK
	}
	entry, e := s.releases.Finish(last)
	if e != api.OK {
		return e
	}
	if e := s.view.Flush(); e != api.OK {
		return e
	}
	if e := s.putSure(releasesBook, entry); e != api.OK {
		return e
	}
	s.sure = last
	return api.OK
}

// Release lets a record down to a partition.
func (s *Store) Release(r release.Release, tick int) (int, api.Errno) {
	if s == nil {
		return 0, api.ErrState
	}
	x := s.partitions[r.Target]
	if x == nil {
		return 0, api.ErrNone
	}
	entry, e := s.releases.Make(r)
	if e != api.OK {
		return 0, e
	}
	r.Number = s.releases.Last() + 1
	records, f, e := x.layRelease(r, tick)
	if e != api.OK {
		return 0, e
	}
	if s.isPending() || !s.hasRoomBehind(entry, x, f) {
		return 0, api.ErrPool
	}
	if e := s.view.Flush(); e != api.OK {
		return 0, e
	}
	if e := s.putSure(releasesBook, entry); e != api.OK {
		return 0, e
	}
	if e := s.putRelease(r, tick); e != api.OK {
		return 0, e
	}
	return records[0].Offset, api.OK
}

// layRelease is the record of a release that comes behind all, and its frame.
func (x *partition) layRelease(r release.Release, tick int) ([]api.Record, api.Frame, api.Errno) {
	return x.lay(api.Record{Tick: tick, From: r.Number}, []api.Pair{r.Pair})
}

// hasRoomBehind tells whether a release's entry has room, and behind it its record's frame.
func (s *Store) hasRoomBehind(entry api.Frame, x *partition, f api.Frame) bool {
	free := s.Free()
	if !s.books[releasesBook].Fits(entry) {
		free--
	}
	return free >= 0 && x.hasRoom(f, free)
}

// putRelease puts a release that is pending into its partition, if that is there; then it is done.
func (s *Store) putRelease(r release.Release, tick int) api.Errno {
	if x := s.partitions[r.Target]; x != nil {
		records, f, e := x.layRelease(r, tick)
		if e != api.OK {
			return e
		}
		if !x.hasRoom(f, s.Free()) {
			return api.ErrPool
		}
		if e := x.take(records, f); e != api.OK {
			return e
		}
	}
	s.finishAlone(r.Number)
	return api.OK
}

// putPending puts the releases that are pending, as long as they can be put.
func (s *Store) putPending(tick int) api.Errno {
	for _, r := range s.releases.Pending() {
		switch e := s.putRelease(r, tick); e {
		case api.OK:
		case api.ErrPool, api.ErrRange: // it stays pending, and so do those behind it
			return api.OK
		default:
			return e
		}
	}
	return api.OK
}
