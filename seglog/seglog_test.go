package seglog_test

import (
	"math"
	"math/rand"
	"slices"
	"strings"
	"testing"

	"weighlock/api"
	"weighlock/disk"
	"weighlock/header"
	"weighlock/pool"
	"weighlock/seglog"
	"weighlock/segment"
	"weighlock/view"
)

const (
	mostBase = 1 << 40
	epoch    = 3 // of the pools of most tests
)

// of is a frame with so many bytes of payload.
func of(kind, size int) api.Frame { return api.Frame{Kind: kind, Payload: strings.Repeat("x", size)} }

// random is a frame with at most so many bytes.
func random(r *rand.Rand, most int) api.Frame {
	b := make([]byte, r.Intn(most+1))
	r.Read(b)
	return api.Frame{Kind: 1 + r.Intn(255), Payload: string(b)}
}

// wants asks for an answer.
func wants(t *testing.T, what string, e, want api.Errno) {
	t.Helper()
	if e != want {
		t.Fatalf("%s: %v, not %v", what, e, want)
	}
}

// opened is a view of so many segments, between others of the disk.
func opened(t *testing.T, segs int) *view.View {
	t.Helper()
	d, e := disk.New(9 + 2 + 16*segs)
	wants(t, "disk.New", e, api.OK)
	v, e := view.New(d, 5, 2+16*segs)
	wants(t, "view.New", e, api.OK)
	return v
}

// pooled is a pool of so many segments.
func pooled(t *testing.T, segs, epoch int) *pool.Pool {
	t.Helper()
	p, e := pool.New(segs, epoch)
	wants(t, "pool.New", e, api.OK)
	return p
}

// made is a log without frames.
func made(t *testing.T, v *view.View, p *pool.Pool, id int, gen uint32, base int) *seglog.Log {
	t.Helper()
	g, e := seglog.New(v, p, id, gen, base)
	if g == nil || e != api.OK {
		t.Fatalf("New(%d, %d, %d): %v, %v", id, gen, base, g, e)
	}
	holds(t, g, id, gen, base, base, nil)
	return g
}

// six is a log on six segments, that begins with the number 10.
func six(t *testing.T) (*view.View, *pool.Pool, *seglog.Log) {
	t.Helper()
	v, p := opened(t, 6), pooled(t, 6, epoch)
	return v, p, made(t, v, p, 4, 2, 10)
}

// holds asks a log for all that it tells but its frames.
func holds(t *testing.T, g *seglog.Log, id int, gen uint32, base, next int, segs []int) {
	t.Helper()
	if g.ID() != id || g.Gen() != gen || g.Base() != base || g.Next() != next || !slices.Equal(g.Segments(), segs) {
		t.Fatalf("%d, %d, %d to %d, %v, not %d, %d, %d to %d, %v", g.ID(), g.Gen(), g.Base(), g.Next(), g.Segments(), id, gen, base, next, segs)
	}
}

// puts puts frames, which have numbers from n on.
func puts(t *testing.T, g *seglog.Log, n int, frames ...api.Frame) {
	t.Helper()
	for i, f := range frames {
		if a, e := g.Append(f); a != n+i || e != api.OK {
			t.Fatalf("Append of %d bytes: %d, %v, not %d", len(f.Payload), a, e, n+i)
		}
	}
}

// refuses asks for why a frame is not put, and for a log and a pool that are as they were.
func refuses(t *testing.T, g *seglog.Log, p *pool.Pool, f api.Frame, want api.Errno) {
	t.Helper()
	base, next, segs, free := g.Base(), g.Next(), g.Segments(), p.Free()
	frames := g.From(base, math.MaxInt)
	if n, e := g.Append(f); n != 0 || e != want {
		t.Fatalf("Append of %d, %d bytes: %d, %v, not %v", f.Kind, len(f.Payload), n, e, want)
	}
	holds(t, g, g.ID(), g.Gen(), base, next, segs)
	if p.Free() != free || !slices.Equal(g.From(base, math.MaxInt), frames) {
		t.Fatalf("%d free, not %d; %v", p.Free(), free, g.From(base, math.MaxInt))
	}
}

// tells asks for all frames of a log, by each number, and by some beside them.
func tells(t *testing.T, g *seglog.Log, base int, frames []api.Frame) {
	t.Helper()
	if !slices.Equal(g.From(base, math.MaxInt), frames) || len(g.From(base-1, math.MaxInt)) != 0 {
		t.Fatalf("From(%d): %v, not %v", base, g.From(base, math.MaxInt), frames)
	}
	for i, want := range frames {
		if f, e := g.Read(base + i); f != want || e != api.OK {
			t.Fatalf("Read(%d): %v, %v, not %v", base+i, f, e, want)
		}
	}
	for _, n := range []int{base - 1, base + len(frames), base + len(frames) + 1, -1, math.MaxInt, math.MinInt} {
		if f, e := g.Read(n); f != (api.Frame{}) || e != api.ErrOffset {
			t.Fatalf("Read(%d): %v, %v", n, f, e)
		}
	}
}

// loaded is a segment that is loaded.
func loaded(t *testing.T, v *view.View, n int) *segment.Segment {
	t.Helper()
	s, e := segment.Load(v, n)
	wants(t, "Load", e, api.OK)
	return s
}

// anew are a log's segments, loaded.
func anew(t *testing.T, v *view.View, g *seglog.Log) []*segment.Segment {
	t.Helper()
	var l []*segment.Segment
	for _, n := range g.Segments() {
		l = append(l, loaded(t, v, n))
	}
	return l
}

// part is a segment of a log of six, that was made by hand, with a number of frames.
func part(t *testing.T, v *view.View, n int, h header.Header, frames int) *segment.Segment {
	t.Helper()
	s, e := segment.Create(v, n, h)
	wants(t, "Create", e, api.OK)
	for i := range frames {
		_, e := s.Append(of(1+i, 3))
		wants(t, "Append", e, api.OK)
	}
	return s
}

// at is a header of the log of six.
func at(base int) header.Header {
	return header.Header{Log: 4, Gen: 2, Stamp: uint32(base), Base: base}
}

// Promise 14.1: logs that may be, which take nothing yet.
func TestNew(t *testing.T) {
	v, p := opened(t, 6), pooled(t, 6, epoch)
	for _, id := range []int{1, 2, 255, 256, 65534, 65535} {
		for _, gen := range []uint32{0, 1, 1 << 31, math.MaxUint32} {
			for _, base := range []int{0, 1, 1 << 32, mostBase - 1, mostBase} {
				tells(t, made(t, v, p, id, gen, base), base, nil)
			}
		}
	}
	if p.Free() != 6 || v.Steps() != 0 {
		t.Errorf("%d free, %d steps", p.Free(), v.Steps())
	}
}

// Promise 14.1: logs that may not be.
func TestWrongLogs(t *testing.T) {
	v, p := opened(t, 6), pooled(t, 6, epoch)
	refused := func(v *view.View, p *pool.Pool, id, base int, want api.Errno) {
		t.Helper()
		if g, e := seglog.New(v, p, id, 2, base); g != nil || e != want {
			t.Errorf("New(%d, %d): %v, %v, not %v", id, base, g, e, want)
		}
	}
	ids := []int{0, -1, -65535, 65536, 65537, 1 << 32, 1<<32 + 1, math.MaxInt, math.MinInt}
	bases := []int{-1, -2, mostBase + 1, math.MaxInt, math.MinInt}
	for _, id := range append(ids, 4) {
		for _, base := range append(bases, 10) {
			refused(nil, p, id, base, api.ErrState)
			refused(v, nil, id, base, api.ErrState)
			refused(nil, nil, id, base, api.ErrState)
			if id != 4 || base != 10 {
				refused(v, p, id, base, api.ErrArg)
			}
		}
	}
}

// The example of the chapter, and promise 14.2: what is made has the log's number and gen, the pool's stamp, and the base.
func TestExample(t *testing.T) {
	v, p, g := six(t)
	wants(t, "Claim", p.Claim(1, 9), api.OK) // another log's
	for i := range 16 {
		puts(t, g, 10+i, of(1+i, 46))
		holds(t, g, 4, 2, 10, 11+i, []int{0, 2, 3}[:1+i/7])
	}
	for i, n := range g.Segments() {
		s := loaded(t, v, n)
		if want := (header.Header{Log: 4, Gen: 2, Stamp: uint32(epoch<<16 + i), Base: 10 + 7*i}); s.Header() != want || s.Frames()[0].Kind != 1+7*i {
			t.Errorf("%v, not %v; %v", s.Header(), want, s.Frames())
		}
	}
	if p.Free() != 2 || !slices.Equal(p.Of(4), []int{0, 2, 3}) {
		t.Errorf("%d free, %v", p.Free(), p.Of(4))
	}
}

// Promise 14.2: the errors, in their order.
func TestAppendsErrors(t *testing.T) {
	v, p, g := six(t)
	wrong := func() {
		t.Helper()
		for _, kind := range []int{0, -1, 256, 257, math.MaxInt, math.MinInt} {
			for _, size := range []int{0, 46, 773, 774, 5000} {
				refuses(t, g, p, of(kind, size), api.ErrArg)
			}
		}
		refuses(t, g, p, of(1, 774), api.ErrLong)
		refuses(t, g, p, of(255, 70000), api.ErrLong)
	}
	wrong() // where a segment must be taken
	for i := range 6 {
		puts(t, g, 10+i, of(255, 700)) // in 14 of the 15 places
		wrong()
	}
	refuses(t, g, p, of(1, 46), api.ErrPool)
	v.Fuse(0)
	refuses(t, g, p, of(1, 45), api.ErrPower)
	refuses(t, g, p, of(1, 46), api.ErrPool) // told ahead of the power that is gone
	wrong()
	wants(t, "Crash", v.Crash([]api.Keep{{Index: 0, Bytes: 64}}), api.OK)
	puts(t, g, 16, of(1, 45)) // what fits needs no segment
	refuses(t, g, p, of(1, 0), api.ErrPool)
	holds(t, g, 4, 2, 10, 17, []int{0, 1, 2, 3, 4, 5})
}

// Promise 14.2: what is refused for its frame takes no stamp either, and behind the last stamp there is no segment more.
func TestStamps(t *testing.T) {
	v, p, g := six(t)
	refuses(t, g, p, of(0, 0), api.ErrArg)
	refuses(t, g, p, of(1, 774), api.ErrLong)
	puts(t, g, 10, of(1, 700))
	if h := loaded(t, v, 0).Header(); h.Stamp != epoch<<16 {
		t.Errorf("the stamp %x", h.Stamp)
	}
	for range 65535 {
		n, _, e := p.Take(9)
		wants(t, "Take", e, api.OK)
		wants(t, "Give", p.Give(n), api.OK)
	}
	refuses(t, g, p, of(1, 700), api.ErrPool)
	puts(t, g, 11, of(1, 45))
}

// Promise 14.2: the power goes at each step of an Append: nothing is put, and what was taken is given back.
func TestPowerInAppend(t *testing.T) {
	for _, c := range []struct {
		ahead []api.Frame
		f     api.Frame
		steps int
	}{
		{nil, of(1, 0), 2}, {nil, of(1, 150), 5}, {nil, of(1, 773), 16},
		{[]api.Frame{of(9, 9)}, of(1, 0), 1}, {[]api.Frame{of(9, 9)}, of(1, 150), 4},
		{[]api.Frame{of(9, 9), of(8, 600)}, of(1, 150), 5}, {[]api.Frame{of(9, 773)}, of(1, 0), 2},
	} {
		for fuse := range c.steps {
			v, p, g := six(t)
			puts(t, g, 10, c.ahead...)
			v.Fuse(fuse)
			refuses(t, g, p, c.f, api.ErrPower)
			if !v.Dead() || !slices.Equal(p.Of(4), g.Segments()) {
				t.Fatalf("%v, not %v", p.Of(4), g.Segments())
			}
			tells(t, g, 10, c.ahead)
		}
		v, p, g := six(t)
		puts(t, g, 10, c.ahead...)
		v.Fuse(c.steps)
		was := v.Steps()
		puts(t, g, 10+len(c.ahead), c.f)
		if v.Steps()-was != c.steps || v.Dead() || p.Free()+len(g.Segments()) != 6 {
			t.Fatalf("%d steps, not %d", v.Steps()-was, c.steps)
		}
	}
}

// Promise 14.2: a pool may have segments that the view has not; the Write's error is told, and they are given back.
func TestViewTooShort(t *testing.T) {
	v, p := opened(t, 2), pooled(t, 6, epoch)
	g := made(t, v, p, 4, 2, 10)
	puts(t, g, 10, of(1, 773), of(2, 700))
	refuses(t, g, p, of(3, 100), api.ErrRange)
	puts(t, g, 12, of(3, 45))
	refuses(t, g, p, of(3, 0), api.ErrRange)
	holds(t, g, 4, 2, 10, 13, []int{0, 1})
}

// Promise 14.2: Fits tells whether a frame may be, and takes no new segment.
func TestFits(t *testing.T) {
	for size := range 774 { // what is left behind a frame of so many bytes
		_, _, g := six(t)
		for _, f := range []api.Frame{of(1, 0), of(1, 773), of(1, 774), of(0, 0), of(256, 0)} {
			if g.Fits(f) {
				t.Fatalf("%d bytes fit into nothing", len(f.Payload))
			}
		}
		puts(t, g, 10, of(1, size))
		left := 52*(15-(size+58)/52) - 7
		for _, c := range []struct {
			f    api.Frame
			want bool
		}{
			{of(1, max(0, left)), left >= 0}, {of(255, max(0, left)), left >= 0}, {of(1, max(0, left+1)), false}, {of(1, 774), false},
			{of(0, max(0, left)), false}, {of(-1, 0), false}, {of(256, 0), false}, {of(1, 0), left >= 0}, {of(1, 773), false},
		} {
			if g.Fits(c.f) != c.want {
				t.Fatalf("behind %d bytes, %d of %d: not %v", size, len(c.f.Payload), c.f.Kind, c.want)
			}
		}
		holds(t, g, 4, 2, 10, 11, []int{0})
	}
}

// Promise 14.2: what fits is put without a new segment, and what does not is put into one, or is refused.
func TestFitsIsAppend(t *testing.T) {
	r := rand.New(rand.NewSource(2))
	for range 100 {
		v, p, g := six(t)
		for range 60 {
			f := random(r, 790)
			if r.Intn(3) > 0 {
				f = random(r, 90)
			}
			if r.Intn(9) == 0 {
				f.Kind *= r.Intn(2) * 3
			}
			was, fits := len(g.Segments()), g.Fits(f)
			_, e := g.Append(f)
			if fits != (e == api.OK && len(g.Segments()) == was) {
				t.Fatalf("Fits: %v; Append: %v", fits, e)
			}
		}
		v.Fuse(0)
		v.Flush()
		if f := of(1, 0); g.Fits(f) != (loadedEnd(g) < 16) || p.Free()+len(g.Segments()) != 6 {
			t.Fatal("Fits is told by what there is, not by the power")
		}
	}
}

// loadedEnd is the place behind the frames of a log's last segment, counted from its frames.
func loadedEnd(g *seglog.Log) int {
	end := 16
	for _, f := range g.From(g.Base(), math.MaxInt) {
		pieces := (len(f.Payload) + 58) / 52
		if end+pieces > 16 {
			end = 1
		}
		end += pieces
	}
	return end
}

// Promise 14.3: segments that were loaded are the log's, and no further frame is put into them.
func TestAdopt(t *testing.T) {
	for _, base := range []int{10, 11, 500, mostBase} {
		v, _, g := six(t)
		frames := []api.Frame{of(1, 700), of(2, 9), of(3, 100), of(4, 700), of(5, 3)}
		puts(t, g, 10, frames...)
		l, q := anew(t, v, g), pooled(t, 6, epoch+1)
		x := made(t, v, q, 4, 2, base)
		wants(t, "Adopt", x.Adopt(l), api.OK)
		holds(t, x, 4, 2, 10, 15, []int{0, 1, 2})
		tells(t, x, 10, frames)
		clear(l) // the list is not kept
		tells(t, x, 10, frames)
		if !slices.Equal(q.Of(4), []int{0, 1, 2}) || q.Free() != 3 || x.Fits(of(1, 0)) {
			t.Errorf("%v, %d free", q.Of(4), q.Free())
		}
		puts(t, x, 15, of(6, 1))
		holds(t, x, 4, 2, 10, 16, []int{0, 1, 2, 3})
		if h := loaded(t, v, 3).Header(); h != (header.Header{Log: 4, Gen: 2, Stamp: (epoch + 1) << 16, Base: 15}) {
			t.Errorf("%v", h)
		}
		tells(t, x, 10, append(frames, of(6, 1)))
		wants(t, "Adopt of a log with segments", x.Adopt(nil), api.ErrState)
	}
}

// Promise 14.3: segments in any order of the pool, with frames and without, are adopted, if one follows the other.
func TestAdoptAnyOrder(t *testing.T) {
	v, p, g := six(t)
	l := []*segment.Segment{part(t, v, 5, at(7), 0), part(t, v, 2, at(7), 3), part(t, v, 4, at(10), 0), part(t, v, 0, at(10), 15), part(t, v, 3, at(25), 1)}
	wants(t, "Adopt", g.Adopt(l), api.OK)
	holds(t, g, 4, 2, 7, 26, []int{5, 2, 4, 0, 3})
	for n := 7; n < 26; n++ {
		want := []int{1, 2, 3, 1, 2, 3, 4, 5, 6, 7, 8, 9, 10, 11, 12, 13, 14, 15, 1}[n-7]
		if f, e := g.Read(n); f != of(want, 3) || e != api.OK {
			t.Fatalf("Read(%d): %v, %v", n, f, e)
		}
	}
	for _, s := range l { // none of them was loaded, but no frame is put into them any more
		if _, e := s.Append(of(1, 0)); e != api.ErrOver || g.Fits(of(1, 0)) {
			t.Errorf("Append to segment %d: %v", s.Number(), e)
		}
	}
	puts(t, g, 26, of(9, 9))
	holds(t, g, 4, 2, 7, 27, []int{5, 2, 4, 0, 3, 1})
	if p.Free() != 0 {
		t.Errorf("%d free", p.Free())
	}
}

// Promise 14.3: none, and a last one without frames.
func TestAdoptNothing(t *testing.T) {
	v, p, g := six(t)
	for range 2 {
		wants(t, "Adopt of none", g.Adopt(nil), api.OK)
		holds(t, g, 4, 2, 10, 10, nil)
	}
	wants(t, "Adopt", g.Adopt([]*segment.Segment{part(t, v, 3, at(8), 0)}), api.OK)
	holds(t, g, 4, 2, 8, 8, []int{3})
	tells(t, g, 8, nil)
	wants(t, "Adopt of a log with a segment", g.Adopt(nil), api.ErrState)
	puts(t, g, 8, of(1, 1))
	holds(t, g, 4, 2, 8, 9, []int{3, 0})
	tells(t, g, 8, []api.Frame{of(1, 1)})
	wants(t, "Adopt", g.Adopt(nil), api.ErrState)
	wants(t, "Free", g.Free(), api.OK)
	wants(t, "Adopt", g.Adopt([]*segment.Segment{part(t, v, 1, at(2), 2)}), api.OK) // there are none any more
	holds(t, g, 4, 2, 2, 4, []int{1})
	if p.Free() != 5 {
		t.Errorf("%d free", p.Free())
	}
}

// Promise 14.3: segments that are not the log's, or do not follow each other, and what is left of log and pool.
func TestAdoptsErrors(t *testing.T) {
	v, p, g := six(t)
	wants(t, "Claim", p.Claim(4, 9), api.OK)
	a, b, c, taken := part(t, v, 0, at(10), 2), part(t, v, 1, at(12), 1), part(t, v, 2, at(13), 0), part(t, v, 4, at(13), 0)
	stranger, older := at(12), at(12)
	stranger.Log, older.Gen = 5, 1
	s, o, after := part(t, v, 3, stranger, 1), part(t, v, 3, older, 1), part(t, v, 5, at(11), 1)
	far := part(t, opened(t, 7), 6, at(12), 1) // beyond the pool
	for i, c := range []struct {
		l    []*segment.Segment
		want api.Errno
	}{
		{[]*segment.Segment{nil}, api.ErrForm}, {[]*segment.Segment{a, nil}, api.ErrForm}, {[]*segment.Segment{nil, a}, api.ErrForm}, {[]*segment.Segment{a, nil, b}, api.ErrForm},
		{[]*segment.Segment{a, s}, api.ErrForm}, {[]*segment.Segment{a, o}, api.ErrForm}, {[]*segment.Segment{s}, api.ErrForm}, {[]*segment.Segment{new(segment.Segment)}, api.ErrForm},
		{[]*segment.Segment{b}, api.ErrForm}, {[]*segment.Segment{after}, api.ErrForm}, {[]*segment.Segment{a, c}, api.ErrForm}, {[]*segment.Segment{a, after}, api.ErrForm}, {[]*segment.Segment{a, a}, api.ErrForm}, {[]*segment.Segment{a, b, a}, api.ErrForm},
		{[]*segment.Segment{a, b, c, c}, api.ErrSame}, {[]*segment.Segment{a, b, taken}, api.ErrSame}, {[]*segment.Segment{a, far}, api.ErrRange},
		{[]*segment.Segment{a, b, taken, s}, api.ErrForm}, {[]*segment.Segment{a, far, nil}, api.ErrForm}, // told ahead of the pool's
	} {
		wants(t, "Adopt "+string(rune('a'+i)), g.Adopt(c.l), c.want)
		holds(t, g, 4, 2, 10, 10, nil)
		if p.Free() != 5 || p.Owner(4) != 9 || len(p.Of(4)) != 0 {
			t.Fatalf("%d: %d free, %v", i, p.Free(), p.Of(4))
		}
		if a.Sealed() || b.Sealed() { // what is not the log's is as it was
			t.Fatalf("%d: a segment was sealed", i)
		}
	}
	wants(t, "Adopt", g.Adopt([]*segment.Segment{a, b, c}), api.OK)
	holds(t, g, 4, 2, 10, 13, []int{0, 1, 2})
	wants(t, "Adopt", g.Adopt([]*segment.Segment{nil}), api.ErrState) // told ahead
}

// Promise 14.4: frames from each number on, and how many.
func TestFrom(t *testing.T) {
	_, _, g := six(t)
	var frames []api.Frame
	for i := range 30 { // of 1 to 4 pieces
		frames = append(frames, of(1+i, (i*i*7)%170))
	}
	puts(t, g, 10, frames...)
	if len(g.Segments()) < 4 {
		t.Fatalf("%v", g.Segments())
	}
	tells(t, g, 10, frames)
	for n := 8; n < 43; n++ {
		for _, most := range []int{math.MinInt, -1, 0, 1, 2, 3, 7, 14, 15, 16, 29, 30, 31, 100, mostBase, math.MaxInt} {
			var want []api.Frame
			if n >= 10 && n < 40 && most > 0 {
				want = frames[n-10 : min(30, n-10+min(most, 30))]
			}
			l := g.From(n, most)
			if !slices.Equal(l, want) {
				t.Fatalf("From(%d, %d): %v, not %v", n, most, l, want)
			}
			clear(l[:cap(l)])
		}
	}
	for _, n := range []int{math.MinInt, -1, 0, mostBase, math.MaxInt} {
		if l := g.From(n, math.MaxInt); len(l) != 0 {
			t.Errorf("From(%d): %v", n, l)
		}
	}
	tells(t, g, 10, frames) // an answer that is changed changes nothing here
	clear(g.Segments())
	if !slices.Equal(g.Segments(), []int{0, 1, 2, 3, 4}) {
		t.Errorf("%v", g.Segments())
	}
}

// full is a log of six, whose segments have as many frames as are told, the last one's place being left.
func full(t *testing.T, counts ...int) (*view.View, *pool.Pool, *seglog.Log, []api.Frame) {
	t.Helper()
	v, p, g := six(t)
	var frames []api.Frame
	for i, count := range counts {
		for j := range count {
			size := 3
			if j == count-1 && i < len(counts)-1 { // fills the segment
				size = 52*(16-count) - 7
			}
			frames = append(frames, of(1+j, size))
		}
	}
	puts(t, g, 10, frames...)
	if len(g.Segments()) != len(counts) {
		t.Fatalf("%v: %v", counts, g.Segments())
	}
	return v, p, g, frames
}

// Promise 14.5: what goes, by each number.
func TestDrop(t *testing.T) {
	for _, c := range []struct {
		counts []int
		before int
		gone   int // segments
		base   int
	}{
		{nil, 99, 0, 10}, {[]int{3}, 99, 0, 10}, {[]int{3, 1}, 12, 0, 10}, {[]int{3, 1}, 13, 1, 13}, {[]int{3, 1}, 14, 1, 13}, {[]int{3, 1}, math.MaxInt, 1, 13},
		{[]int{3, 4, 5, 2}, math.MinInt, 0, 10}, {[]int{3, 4, 5, 2}, -1, 0, 10}, {[]int{3, 4, 5, 2}, 0, 0, 10}, {[]int{3, 4, 5, 2}, 10, 0, 10}, {[]int{3, 4, 5, 2}, 12, 0, 10},
		{[]int{3, 4, 5, 2}, 13, 1, 13}, {[]int{3, 4, 5, 2}, 16, 1, 13}, {[]int{3, 4, 5, 2}, 17, 2, 17}, {[]int{3, 4, 5, 2}, 21, 2, 17}, {[]int{3, 4, 5, 2}, 22, 3, 22}, {[]int{3, 4, 5, 2}, 24, 3, 22}, {[]int{3, 4, 5, 2}, 25, 3, 22},
		{[]int{1, 1, 1, 1, 1, 1}, 14, 4, 14}, {[]int{1, 1, 1, 1, 1, 1}, 99, 5, 15},
	} {
		v, p, g, frames := full(t, c.counts...)
		was, segs := v.Steps(), g.Segments()
		for range 2 { // twice does no more
			wants(t, "Drop", g.Drop(c.before), api.OK)
			holds(t, g, 4, 2, c.base, 10+len(frames), segs[c.gone:])
			tells(t, g, c.base, frames[c.base-10:])
			if v.Steps() != was+c.gone || p.Free() != 6-len(segs)+c.gone || !slices.Equal(p.Of(4), segs[c.gone:]) {
				t.Fatalf("%d steps, %d free, %v", v.Steps()-was, p.Free(), p.Of(4))
			}
		}
		for i, n := range segs {
			if _, e := segment.Load(v, n); (e == api.ErrForm) != (i < c.gone) {
				t.Fatalf("Load(%d): %v", n, e)
			}
		}
		lowest := len(segs)
		if c.gone > 0 { // what was given back is taken anew
			lowest = 0
		}
		puts(t, g, 10+len(frames), of(1, 773))
		holds(t, g, 4, 2, c.base, 11+len(frames), append(segs[c.gone:], lowest))
	}
}

// Promise 14.5: a segment without frames ahead of others goes whatever the number is; the last one never does.
func TestDropOfNoFrames(t *testing.T) {
	for _, before := range []int{math.MinInt, 0, 7, 8, 9, 10, 99} {
		v, p, g := six(t)
		wants(t, "Adopt", g.Adopt([]*segment.Segment{part(t, v, 5, at(7), 0), part(t, v, 2, at(7), 2), part(t, v, 1, at(9), 0)}), api.OK)
		wants(t, "Drop", g.Drop(before), api.OK)
		if before < 9 {
			holds(t, g, 4, 2, 7, 9, []int{2, 1})
		} else {
			holds(t, g, 4, 2, 9, 9, []int{1})
		}
		if p.Free()+len(g.Segments()) != 6 {
			t.Errorf("%d free", p.Free())
		}
	}
}

// Promise 14.5: Free gives all back; its base is its next, and it may go on.
func TestFree(t *testing.T) {
	for _, counts := range [][]int{nil, {3}, {3, 4, 5, 2}, {1, 1, 1, 1, 1, 1}} {
		v, p, g, frames := full(t, counts...)
		was, next := v.Steps(), 10+len(frames)
		for range 2 {
			wants(t, "Free", g.Free(), api.OK)
			holds(t, g, 4, 2, next, next, nil)
			tells(t, g, next, nil)
			if v.Steps() != was+len(counts) || p.Free() != 6 {
				t.Fatalf("%d steps, %d free", v.Steps()-was, p.Free())
			}
		}
		for n := range 6 {
			if _, e := segment.Load(v, n); e != api.ErrForm {
				t.Fatalf("Load(%d): %v", n, e)
			}
		}
		puts(t, g, next, of(7, 7))
		holds(t, g, 4, 2, next, next+1, []int{0})
		if s := loaded(t, v, 0); s.Header() != (header.Header{Log: 4, Gen: 2, Stamp: uint32(epoch<<16 + len(counts)), Base: next}) || s.Len() != 1 {
			t.Errorf("%v", s.Header())
		}
	}
}

// Promise 14.5: where the power goes, what was wiped ahead is gone.
func TestPowerInDropAndFree(t *testing.T) {
	bases := []int{10, 13, 17, 22, 24}
	drop := func(g *seglog.Log) api.Errno { return g.Drop(99) }
	for _, c := range []struct {
		do   func(*seglog.Log) api.Errno
		goes int // so many segments go, if the power does not
	}{{drop, 3}, {(*seglog.Log).Free, 4}} {
		for fuse := range c.goes + 1 {
			v, p, g, frames := full(t, 3, 4, 5, 2)
			v.Fuse(fuse)
			want := api.ErrPower
			if fuse == c.goes {
				want = api.OK
			}
			wants(t, "Drop or Free", c.do(g), want)
			holds(t, g, 4, 2, bases[fuse], 24, []int{0, 1, 2, 3}[fuse:])
			tells(t, g, bases[fuse], frames[bases[fuse]-10:])
			if p.Free() != 2+fuse {
				t.Fatalf("%d free", p.Free())
			}
		}
	}
	v, _, g := six(t)
	v.Fuse(0)
	v.Flush()
	wants(t, "Free of none", g.Free(), api.OK) // without a Write no power is missed
	wants(t, "Drop of none", g.Drop(99), api.OK)
	v, _, g, _ = full(t, 3, 1)
	v.Fuse(0)
	v.Flush()
	wants(t, "Drop of none", g.Drop(12), api.OK)
	wants(t, "Drop", g.Drop(13), api.ErrPower)
}

// Promises 14.1 to 14.5: of nil, and of a log that no call gave (rule R1).
func TestNilAndZero(t *testing.T) {
	var none *seglog.Log
	for _, f := range []api.Frame{{}, of(1, 774), of(1, 1)} {
		if n, e := none.Append(f); n != 0 || e != api.ErrState || none.Fits(f) {
			t.Errorf("Append: %d, %v", n, e)
		}
	}
	for _, n := range []int{-1, 0, 1, math.MaxInt} {
		if f, e := none.Read(n); f != (api.Frame{}) || e != api.ErrState || len(none.From(n, 9)) != 0 || len(none.From(0, n)) != 0 {
			t.Errorf("Read: %v, %v", f, e)
		}
		wants(t, "Drop", none.Drop(n), api.ErrState)
	}
	for _, l := range [][]*segment.Segment{nil, {nil}} {
		wants(t, "Adopt", none.Adopt(l), api.ErrState)
	}
	wants(t, "Free", none.Free(), api.ErrState)
	holds(t, none, 0, 0, 0, 0, nil)
	g := new(seglog.Log)
	if n, e := g.Append(of(1, 1)); n != 0 || e != api.ErrState || g.Fits(of(1, 1)) {
		t.Errorf("Append: %d, %v", n, e)
	}
	wants(t, "Adopt", g.Adopt([]*segment.Segment{new(segment.Segment)}), api.ErrState)
	wants(t, "Drop", g.Drop(9), api.OK)
	wants(t, "Free", g.Free(), api.OK)
	tells(t, g, 0, nil)
	holds(t, g, 0, 0, 0, 0, nil)
}

// piece is a segment of a model.
type piece struct {
	seg, base, end int
	frames         []api.Frame
}

// model is a log by the words of the chapter.
type model struct {
	id, next int
	gen      uint32
	pieces   []piece
}

// owners are whose a model's segments are: of each its log, or 0.
type owners []int

// take takes the lowest free segment.
func (o owners) take(id int) int {
	seg := slices.Index(o, 0)
	if seg >= 0 {
		o[seg] = id
	}
	return seg
}

// base is the number of the first frame of a model.
func (m *model) base() int {
	if len(m.pieces) == 0 {
		return m.next
	}
	return m.pieces[0].base
}

// frames are all frames of a model.
func (m *model) frames() []api.Frame {
	var l []api.Frame
	for _, p := range m.pieces {
		l = append(l, p.frames...)
	}
	return l
}

// put puts a frame that may be.
func (m *model) put(o owners, f api.Frame) api.Errno {
	many := (len(f.Payload) + 58) / 52
	if n := len(m.pieces); n == 0 || m.pieces[n-1].end+many > 16 {
		seg := o.take(m.id)
		if seg < 0 {
			return api.ErrPool
		}
		m.pieces = append(m.pieces, piece{seg: seg, base: m.next, end: 1})
	}
	p := &m.pieces[len(m.pieces)-1]
	p.frames = append(p.frames, f)
	p.end += many
	m.next++
	return api.OK
}

// drop drops pieces below a number, but for so many.
func (m *model) drop(o owners, before, left int) {
	for len(m.pieces) > left && m.pieces[0].base+len(m.pieces[0].frames) <= before {
		o[m.pieces[0].seg] = 0
		m.pieces = m.pieces[1:]
	}
}

// isAs asks for a log that is as its model, in what it tells, and on the disk.
func isAs(t *testing.T, v *view.View, g *seglog.Log, m *model) {
	t.Helper()
	var segs []int
	for _, p := range m.pieces {
		segs = append(segs, p.seg)
		s := loaded(t, v, p.seg)
		if h := s.Header(); h.Log != m.id || h.Gen != m.gen || h.Base != p.base || !slices.Equal(s.Frames(), p.frames) {
			t.Fatalf("segment %d: %v, not %v; %v", p.seg, h, m, s.Frames())
		}
	}
	holds(t, g, m.id, m.gen, m.base(), m.next, segs)
	tells(t, g, m.base(), m.frames())
}

// Promises 14.2 to 14.7: whatever is done with logs of one pool, in whatever order, each is as its model, and free is what no log has.
func TestAgainstTheModel(t *testing.T) {
	for seed := range 40 {
		r := rand.New(rand.NewSource(int64(seed)))
		segs := 6 + r.Intn(12)
		v, p, o := opened(t, segs), pooled(t, segs, epoch), make(owners, segs)
		var logs []*seglog.Log
		var models []*model
		for i := range 3 {
			m := &model{id: 1 + i*r.Intn(2), gen: uint32(i), next: r.Intn(100)} // some have one number
			logs, models = append(logs, made(t, v, p, m.id, m.gen, m.next)), append(models, m)
		}
		for range 200 {
			i := r.Intn(3)
			g, m := logs[i], models[i]
			switch r.Intn(12) {
			case 0:
				wants(t, "Free", g.Free(), api.OK)
				m.drop(o, m.next, 0)
			case 1, 2:
				before := m.base() + r.Intn(m.next-m.base()+3) - 1
				wants(t, "Drop", g.Drop(before), api.OK)
				m.drop(o, before, 1)
			default:
				f := random(r, 40+r.Intn(2)*300)
				_, e := g.Append(f)
				wants(t, "Append", e, m.put(o, f))
			}
			isAs(t, v, g, m)
			if p.Free() != len(slices.DeleteFunc(slices.Clone(o), func(id int) bool { return id != 0 })) {
				t.Fatalf("%d free, %v", p.Free(), o)
			}
		}
		for i, g := range logs {
			isAs(t, v, g, models[i])
			x := made(t, v, pooled(t, segs, epoch+1), models[i].id, models[i].gen, models[i].base())
			wants(t, "Adopt", x.Adopt(anew(t, v, g)), api.OK)
			isAs(t, v, x, models[i])
		}
	}
}

// chain is the chain of a log from a number on, by the words of chapter 15.
func chain(v *view.View, segs, id int, gen uint32, from int) []*segment.Segment {
	var all, l []*segment.Segment
	for n := range segs {
		s, _ := segment.Load(v, n)
		if h := s.Header(); s != nil && h.Log == id && h.Gen == gen && s.Len() > 0 && h.Base+s.Len() > from {
			all = append(all, s)
		}
	}
	slices.SortFunc(all, func(a, b *segment.Segment) int {
		if header.Before(a.Header(), b.Header()) {
			return -1
		}
		return 1
	})
	at := slices.IndexFunc(all, func(s *segment.Segment) bool { return s.Header().Base <= from })
	for at >= 0 {
		l = append(l, all[at])
		next := all[at].Header().Base + all[at].Len()
		at = slices.IndexFunc(all, func(s *segment.Segment) bool { return s.Header().Base == next })
	}
	return l
}

// crashing is a log, all that was put into it, and how far it was flushed.
type crashing struct {
	g       *seglog.Log
	first   int
	put     []api.Frame
	flushed int // the next number at that time
}

// step does something with a log; the error of the power.
func (c *crashing) step(r *rand.Rand) api.Errno {
	switch r.Intn(16) {
	case 0:
		return c.g.Free()
	case 1, 2:
		return c.g.Drop(c.g.Base() + r.Intn(c.g.Next()-c.g.Base()+1))
	}
	f := random(r, 40+r.Intn(2)*300)
	_, e := c.g.Append(f)
	if e == api.OK {
		c.put = append(c.put, f)
	}
	if e == api.ErrPool {
		return c.g.Drop(c.g.Next())
	}
	return e
}

// found asks for a log that is found anew, behind a crash: its chain begins with all that was flushed.
func (c *crashing) found(t *testing.T, v *view.View, segs int) int {
	t.Helper()
	base := c.g.Base()
	x := made(t, v, pooled(t, segs, epoch+1), c.g.ID(), c.g.Gen(), base)
	wants(t, "Adopt", x.Adopt(chain(v, segs, c.g.ID(), c.g.Gen(), base)), api.OK)
	if x.Base() > base || x.Next() < c.flushed || x.Next() > c.first+len(c.put) {
		t.Fatalf("%d to %d, flushed to %d, put to %d", x.Base(), x.Next(), c.flushed, c.first+len(c.put))
	}
	tells(t, x, x.Base(), c.put[x.Base()-c.first:x.Next()-c.first])
	return x.Next() - max(base, c.flushed)
}

// Promise 14.8: wherever the power goes, and whatever stays, a log that is adopted anew has all frames that were flushed, and of those behind them the first ones.
func TestCrashes(t *testing.T) {
	more := map[int]int{}
	for seed := range 3000 {
		r := rand.New(rand.NewSource(int64(seed)))
		segs := 6 + r.Intn(3)
		v, p := opened(t, segs), pooled(t, segs, epoch)
		var logs []*crashing
		for i := range 2 {
			first := r.Intn(50)
			logs = append(logs, &crashing{g: made(t, v, p, 4+i, 2, first), first: first, flushed: first})
		}
		v.Fuse(r.Intn(150))
		for e := api.OK; e == api.OK; {
			e = logs[r.Intn(2)].step(r)
			if e == api.OK && r.Intn(6) == 0 {
				if e = v.Flush(); e == api.OK {
					logs[0].flushed, logs[1].flushed = logs[0].g.Next(), logs[1].g.Next()
				}
			}
		}
		var keeps []api.Keep
		for _, i := range r.Perm(v.Waiting() + 1) {
			if r.Intn(5) > 0 {
				keeps = append(keeps, api.Keep{Index: i, Bytes: []int{64, 64, 64, 63, 58, 6, r.Intn(66)}[r.Intn(7)]})
			}
		}
		wants(t, "Crash", v.Crash(keeps), api.OK)
		for _, c := range logs {
			more[c.found(t, v, segs)]++
		}
	}
	if len(more) < 4 {
		t.Errorf("too few kinds of crashes: %v", more)
	}
}
