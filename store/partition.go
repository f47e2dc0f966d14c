package store

import (
	"weighlock/api"
	"weighlock/batch"
	"weighlock/catalog"
	"weighlock/dedup"
	"weighlock/part"
	"weighlock/record"
	"weighlock/seglog"
)

// The kinds of frames of a partition's log.
const (
	kindPut  = iota + 1 // a batch that was put
	kindKept            // records that were kept
)

// partition is all that a partition has: its records, its producers, and its log.
type partition struct {
	*part.Part
	*dedup.Table
	*seglog.Log
}

// frameOf is the frame of records that are a batch.
func frameOf(kind int, l []api.Record) api.Frame {
	payload, _ := record.Pack(l)
	return api.Frame{Kind: kind, Payload: payload}
}

// packed are records as frames, of as many of them as go into one.
func packed(l []api.Record) []api.Frame {
	var frames []api.Frame
	for len(l) > 0 {
		n := min(len(l), api.MaxBatch)
		for n > 1 && !isBatch(l[:n]) {
			n--
		}
		frames = append(frames, frameOf(kindKept, l[:n]))
		l = l[n:]
	}
	return frames
}

// isBatch tells whether records go into one frame.
func isBatch(l []api.Record) bool {
	_, e := record.Pack(l)
	return e == api.OK
}

// lay are the records of pairs that come behind all, and their frame.
func (x *partition) lay(head api.Record, l []api.Pair) ([]api.Record, api.Frame, api.Errno) {
	head.Offset = x.Part.Next()
	records, e := batch.Records(head, l)
	if e != api.OK {
		return nil, api.Frame{}, e
	}
	return records, frameOf(kindPut, records), api.OK
}

// hasRoom tells whether a frame has room, where so many segments are free.
func (x *partition) hasRoom(f api.Frame, free int) bool { return x.Fits(f) || free > api.Reserve }

// take puts records that were laid behind all.
func (x *partition) take(records []api.Record, f api.Frame) api.Errno {
	if _, e := x.Log.Append(f); e != api.OK {
		return e
	}
	if e := x.note(records); e != api.OK {
		return e
	}
	return x.Part.Append(records)
}

// note notes the records of a batch that was put, if it has a producer.
func (x *partition) note(l []api.Record) api.Errno {
	first := l[0]
	if first.Producer == 0 {
		return api.OK
	}
	return x.Note(first.Producer, first.Seq, len(l), first.Offset)
}

// counted are the frames from a number on that is none below the base.
func (x *partition) counted(from int) []api.Frame {
	return x.From(from, x.Log.Next()-from)
}

// read takes what the frames of the log tell, behind a meta; it tells whether all of them may be.
func (x *partition) read(m catalog.Meta) bool {
	var stay []api.Record
	next := m.Next
	for _, f := range x.counted(m.Seq) {
		l, e := record.Unpack(f.Payload)
		if e != api.OK || f.Kind != kindPut && f.Kind != kindKept {
			return false
		}
		if f.Kind == kindPut && x.note(l) != api.OK {
			return false
		}
		for _, r := range l {
			if r.Offset >= m.Start {
				stay = append(stay, r)
			}
		}
		next = max(next, l[len(l)-1].Offset+1)
	}
	return x.Set(m.Start, next) == api.OK && x.Replace(stay) == api.OK
}

// firstFrame is the number of the first frame that has a record from an offset on, or the log's next.
func (x *partition) firstFrame(offset int) int {
	for i, f := range x.counted(x.Base()) {
		l, e := record.Unpack(f.Payload)
		if e == api.OK && l[len(l)-1].Offset >= offset {
			return x.Base() + i
		}
	}
	return x.Log.Next()
}

// meta is what the catalog is to know of it, as it is now, but for the first frame that counts.
func (x *partition) meta() catalog.Meta {
	return catalog.Meta{Gen: int(x.Gen()), Start: x.Start(), Next: x.Part.Next(), Table: x.Encode()}
}
