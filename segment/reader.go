package segment

import (
	"weighlock/api"
	"weighlock/frame"
	"weighlock/header"
	"weighlock/seal"
)

// reader is what a segment is read with: it embeds the segment, as far as that was read.
type reader struct{ *Segment }

// open is what the sector at a place holds, and the stamp that seals it; ErrForm, if no such count does.
func (r reader) open(place, count int) (uint32, string, api.Errno) {
	sector, e := r.view.Read(r.sector(place))
	if e != api.OK {
		return 0, "", e
	}
	stamp, told, data, e := seal.Open(sector)
	if e != api.OK || told != count {
		return 0, "", api.ErrForm
	}
	return stamp, data, api.OK
}

// readHeader reads the header; ErrForm, if there is none.
func (r reader) readHeader() api.Errno {
	stamp, data, e := r.open(headerAt, headerCount)
	if e != api.OK {
		return e
	}
	h, e := header.Decode(data)
	if e != api.OK || h.Stamp != stamp {
		return api.ErrForm
	}
	r.header = h
	return api.OK
}

// readFrame reads the frame that lies at the end; ErrForm, if there is none.
func (r reader) readFrame() api.Errno {
	bytes := ""
	for place := r.end; place <= lastPlace; place++ {
		stamp, data, e := r.open(place, r.count())
		if e != api.OK {
			return e
		}
		if stamp != r.header.Stamp {
			return api.ErrForm
		}
		bytes += data
		f, _, e := frame.Decode(stamp, r.end, bytes)
		if e == api.ErrShort { // it has a piece more
			continue
		}
		if e != api.OK {
			return api.ErrForm
		}
		r.put(f, place+1-r.end)
		return api.OK
	}
	return api.ErrForm
}
