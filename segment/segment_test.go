package segment_test

import (
	"encoding/binary"
	"hash/crc32"
	"math"
	"math/rand"
	"slices"
	"strings"
	"testing"

	"weighlock/api"
	"weighlock/disk"
	"weighlock/header"
	"weighlock/segment"
	"weighlock/view"
)

const beyond = 3 // sectors of the disk ahead of each view, and behind it

var blank = strings.Repeat("\x00", 64)

// some is a header that may be.
var some = header.Header{Log: 5, Gen: 2, Stamp: 77, Base: 10}

// sealed is a sector, by the words of chapter 9, of at most 52 bytes, with bytes 0 behind.
func sealed(stamp uint32, count int, data string) string {
	s := binary.BigEndian.AppendUint16(binary.BigEndian.AppendUint32(nil, stamp), uint16(count))
	return string(s) + data + strings.Repeat("\x00", 52-len(data)) + string(s)
}

// opens is what a sealed sector tells, by the words of chapter 9.
func opens(sector string) (uint32, int, string, bool) {
	seal := []byte(sector[:6])
	count := int(binary.BigEndian.Uint16(seal[4:]))
	return binary.BigEndian.Uint32(seal), count, sector[6:58], sector[:6] == sector[58:] && count != 0
}

// headed is a header as bytes, by the words of chapter 11.
func headed(h header.Header) string {
	b := binary.BigEndian.AppendUint16([]byte("WS"), uint16(h.Log))
	b = binary.BigEndian.AppendUint32(b, h.Gen)
	b = binary.BigEndian.AppendUint32(b, h.Stamp)
	b = binary.BigEndian.AppendUint64(b, uint64(h.Base))
	b = append(b, 0, 0, 0, 0, 0, 0, 0, 0)
	return string(binary.BigEndian.AppendUint32(b, crc32.ChecksumIEEE(b)))
}

// framed is a frame as bytes, by the words of chapter 8, be it one or not.
func framed(stamp uint32, place int, f api.Frame) string {
	rest := string(binary.BigEndian.AppendUint16(nil, uint16(len(f.Payload)+1))) + string([]byte{byte(f.Kind)}) + f.Payload
	sum := binary.BigEndian.AppendUint16(binary.BigEndian.AppendUint32(nil, stamp), uint16(place))
	crc := crc32.ChecksumIEEE(append(sum, rest...))
	return rest[:2] + string(binary.BigEndian.AppendUint32(nil, crc)) + rest[2:]
}

// cut are sectors of bytes, 52 at a time, sealed.
func cut(stamp uint32, count int, s string) []string {
	var sectors []string
	for from := 0; from < len(s); from += 52 {
		sectors = append(sectors, sealed(stamp, count, s[from:min(from+52, len(s))]))
	}
	return sectors
}

// laid are the sixteen sectors of a segment, by the words of the chapter, and its end.
func laid(h header.Header, frames ...api.Frame) ([]string, int) {
	sectors := []string{sealed(h.Stamp, 1, headed(h))}
	for j, f := range frames {
		sectors = append(sectors, cut(h.Stamp, j+2, framed(h.Stamp, len(sectors), f))...)
	}
	end := len(sectors)
	for len(sectors) < 16 {
		sectors = append(sectors, blank)
	}
	return sectors, end
}

// lying is what sixteen sectors have, by the words of the chapter; false, if no segment can be loaded.
func lying(sectors []string) (header.Header, []api.Frame, int, bool) {
	stamp, count, data, ok := opens(sectors[0])
	h, e := header.Decode(data)
	if !ok || count != 1 || e != api.OK || h.Stamp != stamp {
		return header.Header{}, nil, 0, false
	}
	var frames []api.Frame
	end := 1
	for j := 1; end < 16; j++ {
		_, _, data, _ := opens(sectors[end])
		size := 6 + int(data[0])<<8 + int(data[1])
		many := (size + 51) / 52
		if end+many > 16 {
			break
		}
		all, whole := "", true
		for _, sector := range sectors[end : end+many] {
			stamp, count, data, ok := opens(sector)
			whole = whole && ok && stamp == h.Stamp && count == j+1
			all += data
		}
		kind := int(all[6])
		if !whole || size == 6 || size > 780 || kind == 0 || all[:size] != framed(h.Stamp, end, api.Frame{Kind: kind, Payload: all[7:size]}) {
			break
		}
		frames = append(frames, api.Frame{Kind: kind, Payload: all[7:size]})
		end += many
	}
	return h, frames, end, true
}

// of is a frame with so many bytes of payload.
func of(kind, size int) api.Frame { return api.Frame{Kind: kind, Payload: strings.Repeat("x", size)} }

// random is a frame with at most so many bytes.
func random(r *rand.Rand, most int) api.Frame {
	b := make([]byte, r.Intn(most+1))
	r.Read(b)
	return api.Frame{Kind: 1 + r.Intn(255), Payload: string(b)}
}

// opened is a view of so many sectors of a disk that has others too.
func opened(t *testing.T, sectors int) (*disk.Disk, *view.View) {
	t.Helper()
	d, e := disk.New(sectors + 2*beyond)
	if e != api.OK {
		t.Fatal(e)
	}
	v, e := view.New(d, beyond, sectors)
	if e != api.OK {
		t.Fatal(e)
	}
	return d, v
}

// made is a segment that was made.
func made(t *testing.T, v *view.View, n int, h header.Header) *segment.Segment {
	t.Helper()
	s, e := segment.Create(v, n, h)
	if s == nil || e != api.OK {
		t.Fatalf("Create(%d, %v): %v, %v", n, h, s, e)
	}
	holds(t, s, n, h, nil, 1, false)
	return s
}

// puts asks for the place of a frame that is put, and that no more was written than it has pieces.
func puts(t *testing.T, v *view.View, s *segment.Segment, f api.Frame, want int) {
	t.Helper()
	was, many := v.Steps(), (len(f.Payload)+58)/52
	if at, e := s.Append(f); at != want || e != api.OK || v.Steps() != was+many {
		t.Fatalf("Append of %d bytes: %d, %v, %d steps, not %d", len(f.Payload), at, e, v.Steps()-was, want)
	}
}

// refuses asks for why a frame is not put, and for a segment that is as it was.
func refuses(t *testing.T, s *segment.Segment, f api.Frame, want api.Errno) {
	t.Helper()
	n, h, frames, end, over := s.Number(), s.Header(), s.Frames(), s.End(), s.Sealed()
	if at, e := s.Append(f); at != 0 || e != want {
		t.Errorf("Append of %d, %d bytes: %d, %v, not %v", f.Kind, len(f.Payload), at, e, want)
	}
	holds(t, s, n, h, frames, end, over)
}

// holds asks a segment for all that it tells.
func holds(t *testing.T, s *segment.Segment, n int, h header.Header, frames []api.Frame, end int, over bool) {
	t.Helper()
	if s.Number() != n || s.Header() != h || s.Len() != len(frames) || s.End() != end || s.Sealed() != over || !slices.Equal(s.Frames(), frames) {
		t.Fatalf("%d, %v, %d, %d, %v, %v, not %d, %v, %d, %d, %v, %v", s.Number(), s.Header(), s.Len(), s.End(), s.Sealed(), s.Frames(), n, h, len(frames), end, over, frames)
	}
}

// loads asks for a segment that is loaded, without a step.
func loads(t *testing.T, v *view.View, n int, h header.Header, frames []api.Frame, end int) {
	t.Helper()
	was := v.Steps()
	s, e := segment.Load(v, n)
	if s == nil || e != api.OK || v.Steps() != was {
		t.Fatalf("Load(%d): %v, %v", n, s, e)
	}
	holds(t, s, n, h, frames, end, true)
}

// wrong asks for why a segment is not loaded.
func wrong(t *testing.T, v *view.View, n int, want api.Errno) {
	t.Helper()
	if s, e := segment.Load(v, n); s != nil || e != want {
		t.Fatalf("Load(%d): %v, %v, not %v", n, s, e, want)
	}
}

// wants asks for an answer.
func wants(t *testing.T, what string, e, want api.Errno) {
	t.Helper()
	if e != want {
		t.Errorf("%s: %v, not %v", what, e, want)
	}
}

// image are all sectors of a disk, as they are read.
func image(t *testing.T, d *disk.Disk) []string {
	t.Helper()
	sectors := make([]string, d.Size())
	for at := range sectors {
		s, e := d.Read(at)
		if e != api.OK {
			t.Fatal(e)
		}
		sectors[at] = s
	}
	return sectors
}

// lay lays sectors into the segment n.
func lay(t *testing.T, v *view.View, n int, sectors []string) {
	t.Helper()
	for place, s := range sectors {
		wants(t, "Write", v.Write(2+16*n+place, s), api.OK)
	}
}

// lies asks for a disk that has sectors in the segment n alone.
func lies(t *testing.T, d *disk.Disk, n int, sectors []string) {
	t.Helper()
	from := beyond + 2 + 16*n
	for at, s := range image(t, d) {
		want := blank
		if at >= from && at < from+16 {
			want = sectors[at-from]
		}
		if s != want {
			t.Fatalf("sector %d, place %d: %x, not %x", at, at-from, s, want)
		}
	}
}

// headers are some that may be, and noHeaders some that may not.
func headers() []header.Header {
	return []header.Header{some, {Log: 1}, {Log: 65535, Gen: math.MaxUint32, Stamp: math.MaxUint32, Base: 1 << 40}, {Log: 258, Gen: 3, Stamp: 1 << 16, Base: 5}}
}

func noHeaders() []header.Header {
	return []header.Header{{}, {Log: -1}, {Log: 65536}, {Log: 1, Base: -1}, {Log: 1, Base: 1<<40 + 1}}
}

// Promise 13.1: a segment that is made is its header, in one write, at its place.
func TestCreate(t *testing.T) {
	for n := range 3 {
		for _, h := range headers() {
			d, v := opened(t, 50)
			made(t, v, n, h)
			sectors, _ := laid(h)
			lies(t, d, n, sectors)
			if v.Steps() != 1 || v.Waiting() != 1 {
				t.Errorf("%d steps, %d wait", v.Steps(), v.Waiting())
			}
			loads(t, v, n, h, nil, 1)
		}
	}
}

// Promise 13.1: which segments views have, and that a view's being too short is told ahead of a wrong header, and of the power.
func TestNoSuchSegment(t *testing.T) {
	for _, c := range []struct{ sectors, segs int }{{1, 0}, {2, 0}, {3, 0}, {16, 0}, {17, 0}, {18, 1}, {19, 1}, {33, 1}, {34, 2}, {49, 2}, {50, 3}, {1026, 64}} {
		for _, n := range []int{-1, -2, -16, c.segs, c.segs + 1, c.segs + 16, 1 << 32, 1 << 59, 1 << 60, 1<<60 + 1, math.MaxInt, math.MinInt, math.MinInt + 1} {
			d, v := opened(t, c.sectors)
			before := image(t, d)
			for range 2 {
				for _, h := range append(headers(), noHeaders()...) {
					if s, e := segment.Create(v, n, h); s != nil || e != api.ErrRange {
						t.Fatalf("Create(%d) of %d sectors: %v, %v", n, c.sectors, s, e)
					}
				}
				wrong(t, v, n, api.ErrRange)
				wants(t, "Wipe", segment.Wipe(v, n), api.ErrRange)
				v.Fuse(0)
				v.Flush()
			}
			if v.Steps() != 0 || !slices.Equal(image(t, d), before) {
				t.Fatal("the disk was changed")
			}
		}
		for n := range c.segs {
			_, v := opened(t, c.sectors)
			made(t, v, n, some)
			loads(t, v, n, some, nil, 1)
			wants(t, "Wipe", segment.Wipe(v, n), api.OK)
		}
	}
}

// Promise 13.1: Create's errors behind those: a header that may not be, ahead of the power that is gone.
func TestCreatesErrors(t *testing.T) {
	d, v := opened(t, 34)
	for range 2 {
		for _, h := range noHeaders() {
			if s, e := segment.Create(v, 1, h); s != nil || e != api.ErrArg {
				t.Errorf("Create(%v): %v, %v", h, s, e)
			}
		}
		v.Fuse(0)
		if s, e := segment.Create(v, 1, some); s != nil || e != api.ErrPower {
			t.Errorf("Create without power: %v, %v", s, e)
		}
	}
	for at, s := range image(t, d) {
		if s != blank {
			t.Errorf("sector %d was written", at)
		}
	}
}

// Promises 13.1 and 13.3: of nil.
func TestNil(t *testing.T) {
	for _, n := range []int{-1, 0, 99} {
		for _, h := range []header.Header{some, {}} {
			if s, e := segment.Create(nil, n, h); s != nil || e != api.ErrState {
				t.Errorf("Create: %v, %v", s, e)
			}
		}
		wrong(t, nil, n, api.ErrState)
		wants(t, "Wipe", segment.Wipe(nil, n), api.ErrState)
	}
	var none *segment.Segment
	for range 2 {
		for _, f := range []api.Frame{{}, of(1, 3), of(1, 774)} {
			refuses(t, none, f, api.ErrState)
		}
		holds(t, none, 0, header.Header{}, nil, 0, true)
		none.Seal()
	}
}

// Rule R1: no call dies, not even of a segment, or of a view, that no call gave.
func TestZero(t *testing.T) {
	s := new(segment.Segment)
	refuses(t, s, of(1, 3), api.ErrArg) // it has no place behind its frames
	refuses(t, s, of(1, 774), api.ErrArg)
	holds(t, s, 0, header.Header{}, nil, 0, false)
	s.Seal()
	refuses(t, s, of(1, 3), api.ErrOver)
	v := new(view.View)
	wrong(t, v, 0, api.ErrRange)
	wants(t, "Wipe", segment.Wipe(v, 0), api.ErrRange)
}

// Promise 13.1: no segment is loaded of first sectors that are none of a segment.
func TestNoFirstSector(t *testing.T) {
	bytes, flipped := headed(some), []byte(headed(some))
	flipped[9] ^= 4
	whole := sealed(77, 1, bytes)
	for i, first := range []string{
		blank, sealed(77, 2, bytes), sealed(77, 0, bytes), sealed(77, 257, bytes), sealed(78, 1, bytes), sealed(76, 1, bytes), sealed(0, 1, bytes),
		sealed(77, 1, ""), sealed(77, 1, string(flipped)), sealed(77, 1, bytes[1:]), sealed(77, 1, "\x00"+bytes), sealed(77, 1, headed(header.Header{Stamp: 77})),
		sealed(77, 1, framed(77, 1, of(1, 3))), whole[:63] + "\x00", "\xff" + whole[1:], whole[:60] + blank[60:], blank[:1] + bytes + blank[33:],
	} {
		_, v := opened(t, 18)
		sectors, _ := laid(some, of(1, 3))
		sectors[0] = first
		if first == whole {
			t.Fatal(i)
		}
		lay(t, v, 0, sectors)
		wrong(t, v, 0, api.ErrForm)
		v.Fuse(0)
		v.Flush()
		wrong(t, v, 0, api.ErrPower) // told ahead
	}
}

// Promise 13.1: a first sector's data need but begin with a header.
func TestBehindTheHeader(t *testing.T) {
	_, v := opened(t, 18)
	sectors, end := laid(some, of(1, 3), of(2, 100))
	sectors[0] = sealed(77, 1, headed(some)+strings.Repeat("z", 20))
	lay(t, v, 0, sectors)
	loads(t, v, 0, some, []api.Frame{of(1, 3), of(2, 100)}, end)
}

// Promise 13.1: the error of a Read, be there a segment or not.
func TestLoadWithoutPower(t *testing.T) {
	_, v := opened(t, 34)
	s := made(t, v, 0, some)
	puts(t, v, s, of(1, 100), 1)
	v.Fuse(0)
	v.Flush()
	wrong(t, v, 0, api.ErrPower)
	wrong(t, v, 1, api.ErrPower)
	wants(t, "Crash", v.Crash([]api.Keep{{Index: 0, Bytes: 64}}), api.OK)
	loads(t, v, 0, some, nil, 1)
	wrong(t, v, 1, api.ErrForm)
}

// Promise 13.1: Wipe writes bytes 0 to the first sector of its segment alone, whatever lies there.
func TestWipe(t *testing.T) {
	d, v := opened(t, 50)
	sectors, end := laid(some, of(1, 3), of(2, 100))
	for n := range 3 {
		lay(t, v, n, sectors)
	}
	for _, n := range []int{1, 1, 0, 2} {
		before, was := image(t, d), v.Steps()
		wants(t, "Wipe", segment.Wipe(v, n), api.OK)
		before[beyond+2+16*n] = blank
		if !slices.Equal(image(t, d), before) || v.Steps() != was+1 {
			t.Fatalf("Wipe(%d): %d steps", n, v.Steps()-was)
		}
		wrong(t, v, n, api.ErrForm)
		if n == 1 {
			loads(t, v, 0, some, []api.Frame{of(1, 3), of(2, 100)}, end)
		}
	}
	v.Fuse(1)
	wants(t, "Wipe", segment.Wipe(v, 0), api.OK)
	wants(t, "Wipe", segment.Wipe(v, 0), api.ErrPower)
	wants(t, "Wipe", segment.Wipe(v, 1), api.ErrPower)
}

// Promise 13.2: places of frames of all sizes, and the bytes that they are.
func TestAppend(t *testing.T) {
	for size := range 774 {
		d, v := opened(t, 50)
		s := made(t, v, 1, some)
		puts(t, v, s, of(255, size), 1)
		sectors, end := laid(some, of(255, size))
		lies(t, d, 1, sectors)
		holds(t, s, 1, some, []api.Frame{of(255, size)}, end, false)
		loads(t, v, 1, some, []api.Frame{of(255, size)}, end)
	}
}

// Promise 13.2: frames one behind the other, up to the end, and what does not fit there.
func TestAppendMany(t *testing.T) {
	for _, h := range headers() {
		d, v := opened(t, 34)
		s := made(t, v, 0, h)
		var frames []api.Frame
		place := 1
		for i, size := range []int{0, 45, 46, 97, 98, 200, 1} { // of 1, 1, 2, 2, 3, 4 and 1 pieces
			puts(t, v, s, of(i+1, size), place)
			frames = append(frames, of(i+1, size))
			place += (size + 58) / 52
			holds(t, s, 0, h, frames, place, false)
		}
		refuses(t, s, of(1, 46), api.ErrFull)
		puts(t, v, s, of(9, 45), 15) // just as many pieces as places
		frames = append(frames, of(9, 45))
		holds(t, s, 0, h, frames, 16, false)
		sectors, end := laid(h, frames...)
		lies(t, d, 0, sectors)
		loads(t, v, 0, h, frames, end)
		refuses(t, s, of(1, 0), api.ErrFull) // nothing fits any more
		refuses(t, s, of(1, 773), api.ErrFull)
		refuses(t, s, of(0, 0), api.ErrArg) // and all else is told ahead
		refuses(t, s, of(1, 774), api.ErrLong)
		lies(t, d, 0, sectors)
	}
}

// Promise 13.2: the greatest frame has a segment for itself, and none beside a frame.
func TestGreatestFrame(t *testing.T) {
	_, v := opened(t, 34)
	s := made(t, v, 0, some)
	refuses(t, s, of(1, 774), api.ErrLong)
	puts(t, v, s, of(1, 773), 1)
	holds(t, s, 0, some, []api.Frame{of(1, 773)}, 16, false)
	s = made(t, v, 1, some)
	puts(t, v, s, of(1, 0), 1)
	refuses(t, s, of(1, 722), api.ErrFull)
	puts(t, v, s, of(1, 721), 2)
	loads(t, v, 1, some, []api.Frame{of(1, 0), of(1, 721)}, 16)
}

// Promise 13.2: the errors, in their order.
func TestAppendsErrors(t *testing.T) {
	d, v := opened(t, 18)
	s := made(t, v, 0, some)
	puts(t, v, s, of(1, 600), 1)
	before := image(t, d)
	for range 2 {
		for _, kind := range []int{0, -1, 256, 257, math.MaxInt, math.MinInt} {
			for _, size := range []int{0, 200, 773, 774, 5000} {
				refuses(t, s, of(kind, size), api.ErrArg)
			}
		}
		refuses(t, s, of(1, 774), api.ErrLong)
		refuses(t, s, of(255, 70000), api.ErrLong)
		refuses(t, s, of(1, 150), api.ErrFull) // a byte more than the last three places have
		if !slices.Equal(image(t, d), before) {
			t.Fatal("the disk was changed")
		}
		v.Fuse(0) // the power is told behind all of them
		refuses(t, s, of(1, 149), api.ErrPower)
	}
	s.Seal()
	for _, f := range []api.Frame{of(0, 0), of(1, 774), of(1, 150), of(1, 149), of(1, 0)} {
		refuses(t, s, f, api.ErrOver)
	}
}

// Promise 13.2: the power goes at each of a frame's pieces: those ahead of it wait, in order, and there is no frame more.
func TestPowerInAppend(t *testing.T) {
	for many := 1; many <= 14; many++ {
		for fuse := range many + 1 {
			d, v := opened(t, 18)
			s := made(t, v, 0, some)
			puts(t, v, s, of(1, 9), 1)
			v.Fuse(fuse)
			f := of(2, 52*many-7)
			if fuse == many {
				puts(t, v, s, f, 2)
				continue
			}
			refuses(t, s, f, api.ErrPower)
			if !v.Dead() || v.Waiting() != 2+fuse {
				t.Fatalf("%d wait, not %d", v.Waiting(), 2+fuse)
			}
			sectors, _ := laid(some, of(1, 9), f)
			for place := 2 + fuse; place < 16; place++ {
				sectors[place] = blank
			}
			lies(t, d, 0, sectors)
			wants(t, "Flush of the disk", d.Flush(beyond, 18), api.OK)
			wants(t, "Crash", v.Crash(nil), api.OK)
			loads(t, v, 0, some, []api.Frame{of(1, 9)}, 2)
		}
	}
}

// Promise 13.3: a segment that is sealed stays as it is, also one that was loaded.
func TestSeal(t *testing.T) {
	_, v := opened(t, 18)
	s := made(t, v, 0, some)
	puts(t, v, s, of(1, 9), 1)
	x, e := segment.Load(v, 0)
	wants(t, "Load", e, api.OK)
	puts(t, v, s, of(2, 9), 2) // one that is loaded is of its own
	for range 2 {
		s.Seal()
		x.Seal()
		holds(t, s, 0, some, []api.Frame{of(1, 9), of(2, 9)}, 3, true)
		holds(t, x, 0, some, []api.Frame{of(1, 9)}, 2, true)
		refuses(t, s, of(3, 9), api.ErrOver)
		refuses(t, x, of(3, 9), api.ErrOver)
	}
}

// Rule R3: what is told shares no memory with the segment.
func TestAnswersAreNew(t *testing.T) {
	_, v := opened(t, 18)
	s := made(t, v, 0, some)
	puts(t, v, s, of(1, 9), 1)
	puts(t, v, s, of(2, 9), 2)
	l := s.Frames()
	l[0] = of(7, 7)
	_ = append(l[:1], of(8, 8), of(9, 9))
	puts(t, v, s, of(3, 9), 3)
	holds(t, s, 0, some, []api.Frame{of(1, 9), of(2, 9), of(3, 9)}, 4, false)
}

// Words: what is loaded ends ahead of the first frame that does not lie there, whatever lies behind.
func TestFramesThatDoNotLie(t *testing.T) {
	for _, stamp := range []uint32{77, 0} {
		doNotLie(t, stamp)
	}
}

// doNotLie asks for segments of a stamp that have one frame, as the second one does not lie there.
func doNotLie(t *testing.T, stamp uint32) {
	t.Helper()
	a, b, c := of(1, 9), of(2, 100), of(3, 9) // at the places 1, 2 and 3, and 4
	h := header.Header{Log: 5, Gen: 2, Stamp: stamp, Base: 10}
	split := framed(stamp, 2, b)
	for i, change := range []func(sectors []string){
		func(l []string) { l[2] = blank },
		func(l []string) { l[3] = blank },
		func(l []string) { l[2], l[3] = l[3], l[2] },
		func(l []string) { l[3], l[4] = blank, l[3] },
		func(l []string) { l[3], l[4] = sealed(stamp, 4, ""), l[3] },
		func(l []string) { l[2] = l[2][:63] + "\x01" },
		func(l []string) { l[3] = "\x01" + l[3][1:] },
		func(l []string) { l[2] = sealed(stamp, 2, split[:52]) },
		func(l []string) { l[3] = sealed(stamp, 4, split[52:104]) },
		func(l []string) { l[3] = sealed(stamp+1, 3, split[52:104]) },
		func(l []string) { l[2] = sealed(stamp+1, 3, split[:52]) },
		func(l []string) { copy(l[2:], cut(stamp+1, 3, framed(stamp+1, 2, b))) },       // of another segment
		func(l []string) { copy(l[2:], cut(stamp, 3, framed(stamp+1, 2, b))) },         // of another stamp within its seals
		func(l []string) { copy(l[2:], cut(stamp, 3, framed(stamp, 3, b))) },           // of another place
		func(l []string) { copy(l[2:], cut(stamp, 3, framed(stamp, 2, of(0, 100)))) },  // of the kind 0
		func(l []string) { copy(l[2:], cut(stamp, 3, "\x00\x00"+split[2:])) },          // of no bytes
		func(l []string) { copy(l[2:], cut(stamp, 3, "\x03\x07"+split[2:])) },          // of too many
		func(l []string) { copy(l[2:], cut(stamp, 3, "\xff\xff"+split[2:])) },          // of far too many
		func(l []string) { copy(l[2:], cut(stamp, 3, "\x00\x66"+split[2:])) },          // of one more
		func(l []string) { copy(l[2:], cut(stamp, 3, "\x00\x02"+split[2:])) },          // of one piece, of another CRC
		func(l []string) { copy(l[2:], cut(stamp, 3, split[:60]+"y"+split[61:])) },     // of other bytes
		func(l []string) { copy(l[2:], cut(stamp, 3, framed(stamp, 2, of(2, 774)))) },  // greater than a frame may be
		func(l []string) { copy(l[2:], cut(stamp, 3, framed(stamp, 2, of(2, 773)))) },  // beyond the segment's end
		func(l []string) { copy(l[2:], cut(stamp, 3, framed(stamp, 2, of(2, 722)))) },  // likewise, by a byte
		func(l []string) { copy(l[2:], cut(stamp, 3, framed(stamp, 2, of(2, 1000)))) }, // greater than all
	} {
		_, v := opened(t, 50)
		sectors, _ := laid(h, a, b, c)
		next, _ := laid(h, of(4, 700))
		both := append(sectors, next...)
		change(both) // a frame beyond the segment's end goes on in the one behind
		lay(t, v, 1, both[:16])
		lay(t, v, 2, both[16:])
		s, e := segment.Load(v, 1)
		if e != api.OK || !slices.Equal(s.Frames(), []api.Frame{a}) || s.End() != 2 || s.Header() != h {
			t.Errorf("stamp %d, %d: %v, %v", stamp, i, s, e)
		}
	}
}

// Words: bytes behind a frame, in its last piece, do not count.
func TestBehindAFrame(t *testing.T) {
	_, v := opened(t, 18)
	sectors, end := laid(some, of(1, 9), of(2, 100))
	sectors[1] = sealed(77, 2, framed(77, 1, of(1, 9))+strings.Repeat("z", 36))
	lay(t, v, 0, sectors)
	loads(t, v, 0, some, []api.Frame{of(1, 9), of(2, 100)}, end)
}

// Words: whatever sectors lie there, Load tells what the chapter's words do.
func TestLoadAgainstTheWords(t *testing.T) {
	r := rand.New(rand.NewSource(13))
	told := map[int]int{}
	for range 4000 {
		_, v := opened(t, 18)
		h := headers()[r.Intn(4)]
		sectors := written(r, h)
		other := written(r, header.Header{Log: 5, Gen: 2, Stamp: h.Stamp - 1, Base: 10})
		for range r.Intn(4) {
			at, from := r.Intn(16), r.Intn(16)
			switch r.Intn(6) {
			case 0:
				sectors[at] = blank
			case 1:
				sectors[at] = sectors[from]
			case 2:
				sectors[at] = other[at]
			case 3:
				sectors[at] = other[at][:from*4] + sectors[at][from*4:]
			case 4:
				_, _, data, _ := opens(sectors[at])
				sectors[at] = sealed(h.Stamp, 1+r.Intn(5), data)
			default:
				b := []byte(sectors[at])
				b[r.Intn(64)] ^= 1 << r.Intn(8)
				sectors[at] = string(b)
			}
		}
		lay(t, v, 0, sectors)
		h, frames, end, ok := lying(sectors)
		told[len(frames)]++
		if !ok {
			wrong(t, v, 0, api.ErrForm)
			continue
		}
		loads(t, v, 0, h, frames, end)
	}
	if len(told) < 8 {
		t.Errorf("too few kinds of segments: %v", told)
	}
}

// written are sixteen sectors of a segment with frames that spread.
func written(r *rand.Rand, h header.Header) []string {
	var frames []api.Frame
	most := 45 * (1 + r.Intn(6))
	for {
		frames = append(frames, random(r, most))
		if sectors, end := laid(h, frames...); end > 12 {
			return sectors[:16]
		}
	}
}

// Promise 13.4: what was put is loaded, whether it was flushed or not, and whatever lay there ahead.
func TestRoundTrip(t *testing.T) {
	r := rand.New(rand.NewSource(4))
	for range 300 {
		d, v := opened(t, 50)
		var frames []api.Frame
		var s *segment.Segment
		h := some
		for step := range 60 {
			if step%20 == 0 { // over what lay there, by another stamp
				h = header.Header{Log: 1 + r.Intn(65535), Gen: r.Uint32(), Stamp: uint32(step), Base: r.Intn(1<<40 + 1)}
				s, frames = made(t, v, 1, h), nil
			}
			f := random(r, 150)
			if _, e := s.Append(f); e == api.OK {
				frames = append(frames, f)
			}
			if r.Intn(9) == 0 {
				wants(t, "Flush", v.Flush(), api.OK)
			}
			loads(t, v, 1, h, frames, s.End())
		}
		for at, sector := range image(t, d) {
			if (at < beyond+18 || at >= beyond+34) && sector != blank {
				t.Fatalf("sector %d was written", at)
			}
		}
	}
}

// Promise 13.5: of a small segment, whatever of its writes stays, whole or torn, over nothing and over a segment of another stamp.
func TestAllThatStays(t *testing.T) {
	frames := []api.Frame{of(1, 60), of(2, 9), of(3, 60)} // of 2, 1 and 2 pieces: six writes with the header's
	old := header.Header{Log: 5, Gen: 2, Stamp: 78, Base: 10}
	for _, before := range [][]api.Frame{nil, {of(9, 9), of(8, 60), of(7, 60)}} {
		for flushed := -1; flushed < 3; flushed++ { // so many frames, if any, and the header
			for bits := range 3 * 3 * 3 * 3 * 3 * 3 {
				_, v := opened(t, 18)
				if before != nil {
					sectors, _ := laid(old, before...)
					lay(t, v, 0, sectors)
					wants(t, "Flush", v.Flush(), api.OK)
				}
				s := made(t, v, 0, some)
				for i, f := range frames {
					if i == flushed {
						v.Flush()
					}
					s.Append(f)
				}
				var keeps []api.Keep
				for i, b := 0, bits; i < 6; i, b = i+1, b/3 {
					keeps = append(keeps, api.Keep{Index: i, Bytes: [3]int{0, 60, 64}[b%3]})
				}
				wants(t, "Crash", v.Crash(keeps), api.OK)
				stays(t, v, flushed, frames, old)
			}
		}
	}
}

// stays asks for a segment that begins with the frames that were flushed, and has of those that were put the first ones alone.
func stays(t *testing.T, v *view.View, flushed int, put []api.Frame, old header.Header) {
	t.Helper()
	s, e := segment.Load(v, 0)
	if flushed < 0 && (e == api.ErrForm || s.Header() == old) {
		return
	}
	if e != api.OK || s.Header() != some || s.Len() < flushed || s.Len() > len(put) || !slices.Equal(s.Frames(), put[:s.Len()]) {
		t.Fatalf("%d flushed: %v, %v", flushed, s, e)
	}
}

// Promise 13.5: wherever the power goes, and whatever stays, in whatever order, over what lay there.
func TestCrashes(t *testing.T) {
	r := rand.New(rand.NewSource(5))
	lengths := map[int]int{}
	for range 6000 {
		_, v := opened(t, 18)
		old := header.Header{Log: 5, Gen: 2, Stamp: 1 << 24, Base: 10}
		lay(t, v, 0, written(r, old))
		wants(t, "Flush", v.Flush(), api.OK)
		if r.Intn(2) == 0 {
			wants(t, "Wipe", segment.Wipe(v, 0), api.OK)
		}
		v.Fuse(r.Intn(30))
		flushed := -1
		var put []api.Frame
		s, e := segment.Create(v, 0, some)
		for e == api.OK {
			f := random(r, 120)
			if _, e = s.Append(f); e == api.OK {
				put = append(put, f)
			}
			if e == api.OK && r.Intn(3) == 0 {
				if e = v.Flush(); e == api.OK {
					flushed = len(put)
				}
			}
		}
		keeps := make([]api.Keep, 0, 24)
		waiting := v.Waiting()
		for _, i := range r.Perm(waiting + 2) {
			if r.Intn(4) > 0 {
				keeps = append(keeps, api.Keep{Index: i, Bytes: []int{64, 64, 64, 63, 58, 57, 6, 5, r.Intn(66)}[r.Intn(9)]})
			}
		}
		wants(t, "Crash", v.Crash(keeps), api.OK)
		stays(t, v, flushed, put, old)
		if x, e := segment.Load(v, 0); e == api.OK {
			lengths[x.Len()-max(0, flushed)]++
		}
	}
	if len(lengths) < 4 {
		t.Errorf("too few kinds of crashes: %v", lengths)
	}
}

// The example of the chapter.
func TestExample(t *testing.T) {
	_, v := opened(t, 18)
	s := made(t, v, 0, some)
	puts(t, v, s, of(1, 3), 1)
	holds(t, s, 0, some, []api.Frame{of(1, 3)}, 2, false)
	puts(t, v, s, of(1, 46), 2)
	holds(t, s, 0, some, []api.Frame{of(1, 3), of(1, 46)}, 4, false)
}
