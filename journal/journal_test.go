package journal_test

import (
	"math"
	"math/rand"
	"slices"
	"strings"
	"testing"
	"unsafe"

	"weighlock/api"
	"weighlock/disk"
	"weighlock/header"
	"weighlock/journal"
	"weighlock/pool"
	"weighlock/scan"
	"weighlock/segment"
	"weighlock/view"
)

const epoch = 3 // of the pools of most tests

// of is a frame with so many bytes of payload.
func of(kind, size int) api.Frame { return api.Frame{Kind: kind, Payload: strings.Repeat("x", size)} }

// many are so many frames, of unlike kinds, with so many bytes each.
func many(n, size int) []api.Frame {
	var l []api.Frame
	for i := range n {
		l = append(l, of(1+i%255, size))
	}
	return l
}

// random is a frame with at most so many bytes.
func random(r *rand.Rand, most int) api.Frame {
	b := make([]byte, r.Intn(most+1))
	r.Read(b)
	return api.Frame{Kind: 1 + r.Intn(255), Payload: string(b)}
}

// wants asks for an answer.
func wants(t *testing.T, what string, e, want api.Errno) {
	t.Helper()
	if e != want {
		t.Fatalf("%s: %v, not %v", what, e, want)
	}
}

// opened is a view of so many segments, between others of the disk.
func opened(t *testing.T, segs int) *view.View {
	t.Helper()
	d, e := disk.New(9 + 2 + 16*segs)
	wants(t, "disk.New", e, api.OK)
	v, e := view.New(d, 5, 2+16*segs)
	wants(t, "view.New", e, api.OK)
	return v
}

// pooled is a pool of so many segments.
func pooled(t *testing.T, segs, epoch int) *pool.Pool {
	t.Helper()
	p, e := pool.New(segs, epoch)
	wants(t, "pool.New", e, api.OK)
	return p
}

// six is a journal on six segments, of the number 2 and the gen 7.
func six(t *testing.T) (*view.View, *pool.Pool, *journal.Journal) {
	t.Helper()
	v, p := opened(t, 6), pooled(t, 6, epoch)
	j, e := journal.New(v, p, 2, 7)
	wants(t, "New", e, api.OK)
	holds(t, j, 7, nil)
	return v, p, j
}

// isFrame tells whether a frame may be.
func isFrame(f api.Frame) bool { return f.Kind > 0 && f.Kind < 256 && len(f.Payload) < 774 }

// needed is how many segments frames need, and how many places are left in the last one, by the words of the chapters 8, 13 and 14.
func needed(l []api.Frame) (int, int) {
	segs, left := 0, 0
	for _, f := range l {
		if !isFrame(f) {
			continue
		}
		pieces := (len(f.Payload) + 7 + 51) / 52
		if pieces > left {
			segs, left = segs+1, 15
		}
		left -= pieces
	}
	return segs, left
}

// holds asks a journal for all that it tells, as one whose entries were put one behind the other.
func holds(t *testing.T, j *journal.Journal, gen uint32, l []api.Frame) {
	t.Helper()
	segs, _ := needed(l)
	if j.Gen() != gen || j.Segments() != segs || j.Grown() != (segs > 2) || !slices.Equal(j.Frames(), l) {
		t.Fatalf("%d, %d, %v, %v, not %d, %d, %v", j.Gen(), j.Segments(), j.Grown(), j.Frames(), gen, segs, l)
	}
}

// puts puts entries.
func puts(t *testing.T, j *journal.Journal, l ...api.Frame) {
	t.Helper()
	for _, f := range l {
		wants(t, "Append", j.Append(f), api.OK)
	}
}

// refuses asks for why an entry is not put, and for a journal and a pool that are as they were.
func refuses(t *testing.T, j *journal.Journal, p *pool.Pool, f api.Frame, want api.Errno) {
	t.Helper()
	l, segs, free := j.Frames(), j.Segments(), p.Free()
	wants(t, "Append", j.Append(f), want)
	if !slices.Equal(j.Frames(), l) || j.Segments() != segs || p.Free() != free {
		t.Fatalf("%v, %d, %d free, not %v, %d, %d", j.Frames(), j.Segments(), p.Free(), l, segs, free)
	}
}

// all are the segments of a view that can be loaded.
func all(t *testing.T, v *view.View, segs int) []*segment.Segment {
	t.Helper()
	l, e := scan.All(v, segs)
	wants(t, "All", e, api.OK)
	return l
}

// numbers are the numbers of segments.
func numbers(l []*segment.Segment) []int {
	var n []int
	for _, s := range l {
		n = append(n, s.Number())
	}
	return n
}

// found is a journal of the number 2 that is opened anew on a pool of its own, and its chain.
func found(t *testing.T, v *view.View, segs int, gen uint32) (*journal.Journal, *pool.Pool, []*segment.Segment) {
	t.Helper()
	p := pooled(t, segs, epoch+1)
	j, chain, e := journal.Open(v, p, 2, gen, all(t, v, segs))
	wants(t, "Open", e, api.OK)
	if !slices.Equal(slices.Sorted(slices.Values(numbers(chain))), p.Of(2)) || p.Free()+len(chain) != segs || j.Segments() != len(chain) || j.Gen() != gen {
		t.Fatalf("%v, %v, %d free, %d, %d", numbers(chain), p.Of(2), p.Free(), j.Segments(), j.Gen())
	}
	return j, p, chain
}

// part is a segment that was made by hand, with a number of frames.
func part(t *testing.T, v *view.View, n int, h header.Header, frames int) *segment.Segment {
	t.Helper()
	s, e := segment.Create(v, n, h)
	wants(t, "Create", e, api.OK)
	for i := range frames {
		_, e := s.Append(of(1+i, 3))
		wants(t, "Append", e, api.OK)
	}
	return s
}

// of2 is a header of the journal of six.
func of2(base int) header.Header {
	return header.Header{Log: 2, Gen: 7, Stamp: uint32(base), Base: base}
}

// Promise 26.1: journals that may be, which take nothing yet.
func TestNew(t *testing.T) {
	v, p := opened(t, 6), pooled(t, 6, epoch)
	for _, id := range []int{1, 2, 3, 255, 256, 65534, 65535} {
		for _, gen := range []uint32{0, 1, 1 << 31, math.MaxUint32} {
			j, e := journal.New(v, p, id, gen)
			wants(t, "New", e, api.OK)
			holds(t, j, gen, nil)
			j, chain, e := journal.Open(v, p, id, gen, nil)
			wants(t, "Open", e, api.OK)
			holds(t, j, gen, nil)
			if len(chain) != 0 {
				t.Errorf("the chain %v", numbers(chain))
			}
		}
	}
	if p.Free() != 6 || v.Steps() != 0 {
		t.Errorf("%d free, %d steps", p.Free(), v.Steps())
	}
}

// Promise 26.1: journals that may not be.
func TestWrongJournals(t *testing.T) {
	v, p, j := six(t)
	puts(t, j, of(1, 3))
	l := all(t, v, 6)
	refused := func(v *view.View, p *pool.Pool, id int, want api.Errno) {
		t.Helper()
		if j, e := journal.New(v, p, id, 7); j != nil || e != want {
			t.Errorf("New(%d): %v, %v, not %v", id, j, e, want)
		}
		for _, l := range [][]*segment.Segment{nil, l, {nil}} {
			if j, chain, e := journal.Open(v, p, id, 7, l); j != nil || len(chain) != 0 || e != want {
				t.Errorf("Open(%d): %v, %v, %v, not %v", id, j, numbers(chain), e, want)
			}
		}
	}
	for _, id := range []int{0, -1, -65535, 65536, 65537, 65538, 1 << 32, 1<<32 + 2, math.MaxInt, math.MinInt, 2} {
		refused(nil, p, id, api.ErrState)
		refused(v, nil, id, api.ErrState)
		refused(nil, nil, id, api.ErrState)
		if id != 2 {
			refused(v, p, id, api.ErrArg)
		}
	}
	if p.Free() != 5 {
		t.Errorf("%d free", p.Free())
	}
}

// The example of the chapter, and promise 26.1: what frames need.
func TestNeed(t *testing.T) {
	for n, want := range []int{0, 1, 1, 1, 1, 1, 1, 1, 2, 2, 2, 2, 2, 2, 2, 3} {
		if got := journal.Need(many(n, 46)); got != want {
			t.Errorf("%d frames need %d, not %d", n, got, want)
		}
	}
	for _, c := range []struct {
		sizes []int
		want  int
	}{
		{nil, 0}, {[]int{0}, 1}, {[]int{773}, 1}, {[]int{773, 0}, 2}, {[]int{0, 773}, 2}, {[]int{721, 45}, 1}, {[]int{721, 46}, 2}, {[]int{722, 45}, 2}, {[]int{45, 721}, 1}, {[]int{45, 722}, 2},
		{[]int{700, 100, 45}, 2}, // what would have fitted into an earlier one is not put there
		{[]int{700, 773, 45}, 3}, {[]int{773, 773, 773}, 3}, {[]int{700, 45, 700, 45}, 2}, {[]int{700, 46, 700, 46}, 4}, {[]int{600, 46, 700, 46}, 3},
	} {
		var l []api.Frame
		for _, size := range c.sizes {
			l = append(l, of(9, size))
		}
		if got := journal.Need(l); got != c.want {
			t.Errorf("%v need %d, not %d", c.sizes, got, c.want)
		}
	}
	for size := range 774 {
		each := 15 / ((size + 58) / 52)
		for _, n := range []int{1, each, each + 1, 2 * each, 2*each + 1} {
			if got, want := journal.Need(many(n, size)), (n-1)/each+1; got != want {
				t.Fatalf("%d frames of %d bytes need %d, not %d", n, size, got, want)
			}
		}
	}
	if got := journal.Need(many(50000, 46)); got != 7143 { // also of more than a pool may have
		t.Errorf("50000 frames need %d", got)
	}
}

// wrongs are frames that may not be.
var wrongs = []api.Frame{{}, of(0, 3), of(-1, 3), of(256, 3), of(257, 0), of(math.MaxInt, 773), of(math.MinInt, 3), of(1, 774), of(255, 775), of(1, 5000), of(0, 774), of(256, 70000)}

// Promise 26.1: frames that may not be need nothing, wherever they stand.
func TestNeedOfWrongFrames(t *testing.T) {
	for _, f := range wrongs {
		for n := range 4 {
			if got := journal.Need(slices.Repeat([]api.Frame{f}, 10*n)); got != 0 {
				t.Errorf("%d of %d, %d bytes need %d", 10*n, f.Kind, len(f.Payload), got)
			}
		}
		right := many(15, 46)
		for at := range len(right) + 1 {
			if got := journal.Need(slices.Insert(slices.Clone(right), at, f, f, f)); got != 3 {
				t.Errorf("%d, %d bytes at %d: %d are needed", f.Kind, len(f.Payload), at, got)
			}
		}
	}
	for _, f := range []api.Frame{of(1, 773), of(255, 0)} {
		if journal.Need([]api.Frame{f}) != 1 {
			t.Errorf("%d, %d bytes need none", f.Kind, len(f.Payload))
		}
	}
}

// Promise 26.2: entries stand one behind the other, and what the journal tells of itself.
func TestAppend(t *testing.T) {
	for _, size := range []int{0, 45, 46, 100, 300, 773} {
		v, p, j := six(t)
		var l []api.Frame
		for {
			f := of(1+len(l), size)
			if segs, _ := needed(append(l, f)); segs > 6 {
				break
			}
			puts(t, j, f)
			l = append(l, f)
			holds(t, j, 7, l)
			if p.Free() != 6-j.Segments() || len(p.Of(2)) != j.Segments() {
				t.Fatalf("%d free, %v", p.Free(), p.Of(2))
			}
		}
		refuses(t, j, p, of(1, size), api.ErrPool)
		for i, s := range all(t, v, 6) {
			if h := s.Header(); h.Log != 2 || h.Gen != 7 || h.Stamp != uint32(epoch<<16+i) || i == 0 && h.Base != 0 {
				t.Errorf("segment %d: %v", i, h)
			}
		}
	}
}

// Promise 26.2: the log's errors, in their order.
func TestAppendsErrors(t *testing.T) {
	v, p, j := six(t)
	wrong := func() {
		t.Helper()
		for _, f := range wrongs {
			want := api.ErrArg
			if f.Kind > 0 && f.Kind < 256 {
				want = api.ErrLong
			}
			refuses(t, j, p, f, want)
		}
	}
	wrong()
	for i := range 6 {
		puts(t, j, of(1+i, 700))
		wrong()
	}
	refuses(t, j, p, of(1, 46), api.ErrPool)
	v.Fuse(0)
	refuses(t, j, p, of(1, 45), api.ErrPower)
	wrong()
	wants(t, "Crash", v.Crash(nil), api.OK)
	puts(t, j, of(1, 45))
	refuses(t, j, p, of(1, 0), api.ErrPool)
}

// Promise 26.2: Fits tells whether an entry may be, and takes no new segment.
func TestFits(t *testing.T) {
	r := rand.New(rand.NewSource(1))
	fit := map[bool]int{}
	for range 40 {
		_, p, j := six(t)
		for range 60 {
			f := random(r, []int{60, 200, 780}[r.Intn(3)])
			if r.Intn(9) == 0 {
				f = wrongs[r.Intn(len(wrongs))]
			}
			_, left := needed(j.Frames())
			want := isFrame(f) && (len(f.Payload)+58)/52 <= left
			segs := j.Segments()
			if j.Fits(f) != want || j.Segments() != segs {
				t.Fatalf("Fits(%d, %d bytes): not %v", f.Kind, len(f.Payload), want)
			}
			if e := j.Append(f); want != (e == api.OK && j.Segments() == segs) || p.Free()+j.Segments() != 6 {
				t.Fatalf("Append: %v", e)
			}
			fit[want]++
		}
	}
	if min(fit[true], fit[false]) < 100 {
		t.Errorf("too few of a kind: %v", fit)
	}
}

// Promise 26.2: Free gives all segments back.
func TestFree(t *testing.T) {
	for _, n := range []int{0, 1, 6, 7, 8, 20, 42} {
		v, p, j := six(t)
		l := many(n, 46)
		puts(t, j, l...)
		segs := j.Segments()
		for fuse := range segs { // the log's error, if the power goes: those that were wiped ahead are gone
			v.Fuse(1)
			want := api.ErrPower
			if fuse == segs-1 {
				want = api.OK
			}
			wants(t, "Free", j.Free(), want)
			if j.Segments() != segs-1-fuse || p.Free() != 7-segs+fuse {
				t.Fatalf("%d segments, %d free", j.Segments(), p.Free())
			}
			wants(t, "Crash", v.Crash([]api.Keep{{Index: v.Waiting() - 1, Bytes: 64}}), api.OK)
		}
		wants(t, "Free", j.Free(), api.OK)
		holds(t, j, 7, nil)
		if p.Free() != 6 {
			t.Errorf("%d free", p.Free())
		}
	}
	v, p, j := six(t)
	puts(t, j, many(20, 46)...)
	wants(t, "Free", j.Free(), api.OK)
	if len(all(t, v, 6)) != 0 || p.Free() != 6 || len(p.Of(2)) != 0 {
		t.Errorf("%v, %d free", numbers(all(t, v, 6)), p.Free())
	}
	puts(t, j, of(5, 5)) // it may go on
	holds(t, j, 7, []api.Frame{of(5, 5)})
}

// Promises 26.1 and 26.2: what was put is found again, and goes on.
func TestOpen(t *testing.T) {
	for _, n := range []int{0, 1, 7, 8, 14, 15, 30, 35} {
		v, _, j := six(t)
		l := many(n, 46)
		puts(t, j, l...)
		x, p, chain := found(t, v, 6, 7)
		holds(t, x, 7, l)
		for i, s := range chain {
			if h := s.Header(); s.Number() != i || h.Base != 7*i || !s.Sealed() {
				t.Errorf("the chain's segment %d: %v", i, h)
			}
		}
		if x.Fits(of(1, 0)) {
			t.Error("an entry fits into what was found")
		}
		clear(chain) // the list is not kept
		holds(t, x, 7, l)
		puts(t, x, of(9, 9)) // into another segment
		if x.Segments() != len(chain)+1 || p.Free() != 5-len(chain) || !slices.Equal(x.Frames(), append(l, of(9, 9))) {
			t.Errorf("%d segments, %d free, %v", x.Segments(), p.Free(), x.Frames())
		}
		y, _, _ := found(t, v, 6, 7)
		if !slices.Equal(y.Frames(), x.Frames()) || y.Segments() != x.Segments() {
			t.Errorf("%v, not %v", y.Frames(), x.Frames())
		}
	}
}

// Promise 26.1: only the chain of the number and the gen, from 0 on, whatever else there is, and in whatever order.
func TestOpenAmongOthers(t *testing.T) {
	other, older, newer := of2(0), of2(0), of2(0)
	other.Log, older.Gen, newer.Gen = 3, 6, 8
	v, p := opened(t, 10), pooled(t, 10, epoch)
	part(t, v, 0, other, 3)
	part(t, v, 1, of2(5), 2)
	part(t, v, 2, older, 3)
	part(t, v, 3, of2(0), 3)
	part(t, v, 4, newer, 3)
	part(t, v, 5, of2(3), 2)
	part(t, v, 6, of2(8), 2) // behind a gap
	part(t, v, 7, of2(7), 0) // without frames
	l := all(t, v, 10)
	r := rand.New(rand.NewSource(1))
	for range 20 {
		r.Shuffle(len(l), func(a, b int) { l[a], l[b] = l[b], l[a] })
		at := r.Intn(len(l) + 1)
		given := slices.Insert(slices.Clone(l), at, nil)
		was := slices.Clone(given)
		p := pooled(t, 10, epoch)
		j, chain, e := journal.Open(v, p, 2, 7, given)
		wants(t, "Open", e, api.OK)
		if !slices.Equal(numbers(chain), []int{3, 5, 1}) || !slices.Equal(p.Of(2), []int{1, 3, 5}) || p.Free() != 7 || !slices.Equal(given, was) {
			t.Fatalf("%v, %v, %d free", numbers(chain), p.Of(2), p.Free())
		}
		want := []api.Frame{of(1, 3), of(2, 3), of(3, 3), of(1, 3), of(2, 3), of(1, 3), of(2, 3)}
		if !slices.Equal(j.Frames(), want) || j.Segments() != 3 || !j.Grown() || j.Gen() != 7 {
			t.Fatalf("%v", j.Frames())
		}
	}
	for _, c := range []struct {
		id   int
		gen  uint32
		want []int
	}{{3, 7, []int{0}}, {2, 6, []int{2}}, {2, 8, []int{4}}, {3, 6, nil}, {1, 7, nil}, {2, 9, nil}} {
		j, chain, e := journal.Open(v, p, c.id, c.gen, l)
		wants(t, "Open", e, api.OK)
		if !slices.Equal(numbers(chain), c.want) || len(j.Frames()) != 3*len(c.want) || j.Gen() != c.gen || !slices.Equal(p.Of(c.id)[:len(c.want)], c.want) {
			t.Errorf("of %d, %d: %v, %v", c.id, c.gen, numbers(chain), j.Frames())
		}
		wants(t, "Free", j.Free(), api.OK)
	}
}

// Promise 26.1: of a chain that begins above 0 nothing is found.
func TestOpenAboveTheBeginning(t *testing.T) {
	v, p := opened(t, 6), pooled(t, 6, epoch)
	part(t, v, 2, of2(1), 3)
	part(t, v, 3, of2(4), 3)
	j, chain, e := journal.Open(v, p, 2, 7, all(t, v, 6))
	wants(t, "Open", e, api.OK)
	holds(t, j, 7, nil)
	if len(chain) != 0 || p.Free() != 6 {
		t.Errorf("%v, %d free", numbers(chain), p.Free())
	}
	puts(t, j, of(5, 5))
	if h := all(t, v, 6)[0].Header(); h.Base != 0 {
		t.Errorf("%v", h)
	}
}

// Promise 26.1: the error of Adopt; then nothing is the journal's.
func TestOpensErrors(t *testing.T) {
	v, _, j := six(t)
	puts(t, j, many(20, 46)...)
	l := all(t, v, 6)
	for _, taken := range []int{0, 1, 2} {
		p := pooled(t, 6, epoch)
		wants(t, "Claim", p.Claim(taken, 9), api.OK)
		x, chain, e := journal.Open(v, p, 2, 7, l)
		if x != nil || len(chain) != 0 || e != api.ErrSame || p.Free() != 5 || p.Owner(taken) != 9 || len(p.Of(2)) != 0 {
			t.Errorf("%v, %v, %v; %d free", x, numbers(chain), e, p.Free())
		}
	}
	far, p := opened(t, 8), pooled(t, 6, epoch)
	part(t, far, 0, of2(0), 2)
	part(t, far, 7, of2(2), 2) // beyond the pool
	x, chain, e := journal.Open(far, p, 2, 7, all(t, far, 8))
	if x != nil || len(chain) != 0 || e != api.ErrRange || p.Free() != 6 {
		t.Errorf("%v, %v, %v; %d free", x, numbers(chain), e, p.Free())
	}
}

// anew writes a journal anew, and asks for one with these entries, and for the first one as it was.
func anew(t *testing.T, v *view.View, p *pool.Pool, j *journal.Journal, l []api.Frame) *journal.Journal {
	t.Helper()
	was, segs, free, gen := j.Frames(), j.Segments(), p.Free(), j.Gen()
	x, e := j.Anew(l)
	wants(t, "Anew", e, api.OK)
	holds(t, x, gen+1, l)
	if !slices.Equal(j.Frames(), was) || j.Segments() != segs || j.Gen() != gen || p.Free() != free-journal.Need(l) {
		t.Fatalf("%v, %d, %d; %d free, not %d", j.Frames(), j.Segments(), j.Gen(), p.Free(), free-journal.Need(l))
	}
	y, _, _ := found(t, v, p.Size(), gen+1)
	holds(t, y, gen+1, l)
	y, _, _ = found(t, v, p.Size(), gen)
	if !slices.Equal(y.Frames(), was) {
		t.Fatalf("%v, not %v", y.Frames(), was)
	}
	return x
}

// Promises 26.3 and 26.4: another journal, of the same number and the next gen.
func TestAnew(t *testing.T) {
	v, p, j := six(t)
	puts(t, j, many(21, 46)...)
	x := anew(t, v, p, j, many(8, 46)[1:])
	if !slices.Equal(p.Of(2), []int{0, 1, 2, 3}) {
		t.Errorf("%v", p.Of(2))
	}
	if h := all(t, v, 6)[3].Header(); h != (header.Header{Log: 2, Gen: 8, Stamp: epoch<<16 + 3, Base: 0}) {
		t.Errorf("%v", h)
	}
	puts(t, j, of(1, 46), of(2, 46)) // both may go on
	puts(t, x, of(4, 4))
	holds(t, j, 7, append(many(21, 46), of(1, 46), of(2, 46)))
	holds(t, x, 8, append(many(8, 46)[1:], of(4, 4)))
	wants(t, "Free", j.Free(), api.OK)
	holds(t, x, 8, append(many(8, 46)[1:], of(4, 4)))
	y := anew(t, v, p, x, nil)
	puts(t, y, of(1, 1))
	z := anew(t, v, p, y, y.Frames())
	if z.Gen() != 10 {
		t.Errorf("Gen: %d", z.Gen())
	}
}

// Promise 26.3: a gen that is one more, also over the edges of what bytes hold.
func TestGens(t *testing.T) {
	for _, gen := range []uint32{0, 1, 254, 255, 65535, 1<<24 - 1, 1<<31 - 1, math.MaxUint32 - 1, math.MaxUint32} {
		v, p := opened(t, 6), pooled(t, 6, epoch)
		j, e := journal.New(v, p, 2, gen)
		wants(t, "New", e, api.OK)
		puts(t, j, of(1, 1))
		x := anew(t, v, p, j, []api.Frame{of(2, 2)})
		if x.Gen() != gen+1 {
			t.Errorf("Gen: %d behind %d", x.Gen(), gen)
		}
	}
	for _, id := range []int{1, 3, 65535} {
		p := pooled(t, 6, epoch)
		j, e := journal.New(opened(t, 6), p, id, 5)
		wants(t, "New", e, api.OK)
		x, e := j.Anew([]api.Frame{of(1, 1)})
		wants(t, "Anew", e, api.OK)
		if x.Gen() != 6 || !slices.Equal(p.Of(id), []int{0}) {
			t.Errorf("of %d: %v", id, p.Of(id))
		}
	}
}

// failsAnew asks for why a journal is not written anew, and for all as it was, but for the disk.
func failsAnew(t *testing.T, p *pool.Pool, j *journal.Journal, l []api.Frame, want api.Errno) {
	t.Helper()
	was, segs, free, gen, of2 := j.Frames(), j.Segments(), p.Free(), j.Gen(), p.Of(2)
	if x, e := j.Anew(l); x != nil || e != want {
		t.Fatalf("Anew: %v, %v, not %v", x, e, want)
	}
	if !slices.Equal(j.Frames(), was) || j.Segments() != segs || j.Gen() != gen {
		t.Fatalf("%v, %d, %d", j.Frames(), j.Segments(), j.Gen())
	}
	if want != api.ErrPower && (p.Free() != free || !slices.Equal(p.Of(2), of2)) {
		t.Fatalf("%d free, not %d; %v, not %v", p.Free(), free, p.Of(2), of2)
	}
}

// Promise 26.3: the first error, wherever it comes; then all segments are free, and nothing is found of what was put.
func TestAnewsErrors(t *testing.T) {
	v, p, j := six(t)
	puts(t, j, many(8, 46)...)
	wants(t, "Claim", p.Claim(5, 9), api.OK)
	right := many(21, 46) // three segments
	for _, f := range wrongs {
		want := api.ErrArg
		if f.Kind > 0 && f.Kind < 256 {
			want = api.ErrLong
		}
		for at := range len(right) + 1 {
			failsAnew(t, p, j, slices.Insert(slices.Clone(right), at, f), want)
			if l := all(t, v, 6); !slices.Equal(numbers(l), []int{0, 1}) {
				t.Fatalf("at %d: %v", at, numbers(l))
			}
		}
		failsAnew(t, p, j, append(many(22, 46), f), api.ErrPool) // it comes first
		failsAnew(t, p, j, []api.Frame{f, of(1, 774), of(0, 0)}, want)
	}
	for n := 22; n < 50; n++ {
		failsAnew(t, p, j, many(n, 46), api.ErrPool)
		if l := all(t, v, 6); !slices.Equal(numbers(l), []int{0, 1}) {
			t.Fatalf("%v", numbers(l))
		}
	}
	x := anew(t, v, p, j, right)
	failsAnew(t, p, x, many(1, 0), api.ErrPool)
	anew(t, v, p, x, nil) // nothing needs nothing
}

// Promise 26.3: a pool may have segments that the view has not.
func TestAnewBeyondTheView(t *testing.T) {
	v, p := opened(t, 2), pooled(t, 6, epoch)
	j, e := journal.New(v, p, 2, 7)
	wants(t, "New", e, api.OK)
	puts(t, j, of(1, 1))
	failsAnew(t, p, j, many(8, 46), api.ErrRange)
	x, e := j.Anew(many(7, 46))
	wants(t, "Anew", e, api.OK)
	holds(t, x, 8, many(7, 46))
}

// Promise 26.3: the power goes at each step: that is the error, and the first journal stays.
func TestPowerInAnew(t *testing.T) {
	l := many(20, 46) // of two pieces each, and three headers
	for fuse := range 44 {
		v, p, j := six(t)
		puts(t, j, many(8, 46)...)
		wants(t, "Flush", v.Flush(), api.OK)
		v.Fuse(fuse)
		if fuse < 43 {
			failsAnew(t, p, j, l, api.ErrPower)
			if !v.Dead() {
				t.Fatal("the power is there")
			}
			wants(t, "Crash", v.Crash([]api.Keep{{Index: 0, Bytes: 64}, {Index: 1, Bytes: 64}, {Index: 2, Bytes: 64}}), api.OK)
		} else {
			anew(t, v, p, j, l)
		}
		x, _, _ := found(t, v, 6, 7)
		if !slices.Equal(x.Frames(), many(8, 46)) {
			t.Fatalf("%v", x.Frames())
		}
	}
	v, p, j := six(t)
	v.Fuse(0)
	wants(t, "Flush", v.Flush(), api.ErrPower)
	failsAnew(t, p, j, []api.Frame{of(0, 0)}, api.ErrArg) // told ahead of the power that is gone
	x, e := j.Anew(nil)                                   // without a Write no power is missed
	wants(t, "Anew", e, api.OK)
	holds(t, x, 8, nil)
}

// Promise 26.3: the first error is told, also if the power goes while what was put is wiped.
func TestPowerWhileFreeing(t *testing.T) {
	for _, c := range []struct {
		l     []api.Frame
		steps int // till the error
		wipes int
		want  api.Errno
	}{{append(many(8, 46), of(0, 0)), 18, 2, api.ErrArg}, {append(many(8, 46), of(1, 774)), 18, 2, api.ErrLong}, {many(36, 46), 75, 5, api.ErrPool}} {
		for fuse := c.steps; fuse <= c.steps+c.wipes; fuse++ {
			v, p, j := six(t)
			puts(t, j, of(1, 1))
			v.Fuse(fuse)
			x, e := j.Anew(c.l)
			if x != nil || e != c.want || v.Dead() != (fuse < c.steps+c.wipes) || p.Free() != 5-c.wipes+fuse-c.steps {
				t.Fatalf("a fuse of %d: %v, %v, not %v; %d free", fuse, x, e, c.want, p.Free())
			}
			holds(t, j, 7, []api.Frame{of(1, 1)})
		}
	}
}

// Promise 26.4: with as many segments free as frames need there is no error, and just these are taken; with one less there is.
func TestAnewTakesWhatIsNeeded(t *testing.T) {
	r := rand.New(rand.NewSource(1))
	for range 300 {
		segs := 6 + r.Intn(10)
		v, p := opened(t, segs), pooled(t, segs, epoch)
		j, e := journal.New(v, p, 2, 7)
		wants(t, "New", e, api.OK)
		var l []api.Frame
		most := []int{20, 100, 400, 773}[r.Intn(4)]
		for range r.Intn(40) {
			if x := append(l, random(r, most)); journal.Need(x) <= segs {
				l = x
			}
		}
		need, _ := needed(l)
		if journal.Need(l) != need {
			t.Fatalf("%d are needed, not %d", journal.Need(l), need)
		}
		taken := r.Perm(segs)[:segs-need]
		for _, n := range taken {
			wants(t, "Claim", p.Claim(n, 9), api.OK)
		}
		x := anew(t, v, p, j, l)
		if p.Free() != 0 || x.Segments() != need {
			t.Fatalf("%d free", p.Free())
		}
		wants(t, "Free", x.Free(), api.OK)
		if need > 0 {
			wants(t, "Claim", p.Claim(lowest(p), 9), api.OK)
			failsAnew(t, p, j, l, api.ErrPool)
		}
	}
}

// lowest is the lowest free segment of a pool.
func lowest(p *pool.Pool) int {
	for n := range p.Size() {
		if p.Owner(n) == 0 {
			return n
		}
	}
	return -1
}

// Promises 26.1 to 26.3: of nil, and of a journal that no call gave (rule R1).
func TestNilAndZero(t *testing.T) {
	for _, j := range []*journal.Journal{nil, new(journal.Journal)} {
		for _, f := range []api.Frame{{}, of(1, 774), of(1, 1)} {
			wants(t, "Append", j.Append(f), api.ErrState)
			if j.Fits(f) {
				t.Error("it fits")
			}
		}
		for _, l := range [][]api.Frame{nil, {of(1, 1)}, {of(0, 0)}} {
			if x, e := j.Anew(l); x != nil || e != api.ErrState {
				t.Errorf("Anew: %v, %v", x, e)
			}
		}
		wants(t, "Free", j.Free(), api.ErrState)
		holds(t, j, 0, nil)
	}
}

// Rule R3: what is told shares no memory with what is kept, nor that with what was handed in.
func TestMemory(t *testing.T) {
	v, p, j := six(t)
	l := many(10, 46)
	puts(t, j, l...)
	frames := j.Frames()
	clear(frames[:cap(frames)])
	holds(t, j, 7, l)
	given := slices.Clone(l)
	x := anew(t, v, p, j, given)
	if !slices.Equal(given, l) {
		t.Errorf("%v was handed in", given)
	}
	clear(given)
	holds(t, x, 8, l)
	b := []byte("fleeting")
	wants(t, "Append", j.Append(api.Frame{Kind: 1, Payload: unsafe.String(&b[0], len(b))}), api.OK)
	clear(b)
	holds(t, j, 7, append(l, api.Frame{Kind: 1, Payload: "fleeting"}))
}

// Promises 26.1 to 26.4: whatever is done with journals of one pool, each has what was put into it, and is found again.
func TestAgainstTheWords(t *testing.T) {
	anews := map[api.Errno]int{}
	for seed := range 60 {
		r := rand.New(rand.NewSource(int64(seed)))
		segs := 8 + r.Intn(8)
		v, p := opened(t, segs), pooled(t, segs, epoch)
		var journals [2]*journal.Journal
		var entries [2][]api.Frame
		for i := range journals {
			j, e := journal.New(v, p, 1+i, 7)
			wants(t, "New", e, api.OK)
			journals[i] = j
		}
		for range 150 {
			i := r.Intn(2)
			j := journals[i]
			if r.Intn(8) > 0 {
				f := random(r, []int{60, 300}[r.Intn(2)])
				want := api.OK
				if !j.Fits(f) && p.Free() == 0 {
					want = api.ErrPool
				}
				wants(t, "Append", j.Append(f), want)
				if want == api.OK {
					entries[i] = append(entries[i], f)
				}
			} else {
				l := slices.Clone(entries[i][r.Intn(len(entries[i])+1):])
				need, _ := needed(l)
				want := api.OK
				if need > p.Free() {
					want = api.ErrPool
				}
				x, e := j.Anew(l)
				wants(t, "Anew", e, want)
				anews[e]++
				if e == api.OK {
					wants(t, "Free", j.Free(), api.OK)
					journals[i], entries[i] = x, l
				}
			}
			free := segs
			for i, j := range journals {
				holds(t, j, j.Gen(), entries[i])
				free -= j.Segments()
				x, chain, e := journal.Open(v, pooled(t, segs, epoch), 1+i, j.Gen(), all(t, v, segs))
				wants(t, "Open", e, api.OK)
				holds(t, x, j.Gen(), entries[i])
				if len(chain) != j.Segments() {
					t.Fatalf("the chain %v", numbers(chain))
				}
			}
			if p.Free() != free || len(all(t, v, segs)) != segs-free {
				t.Fatalf("%d free, not %d; %v", p.Free(), free, numbers(all(t, v, segs)))
			}
		}
	}
	if min(anews[api.OK], anews[api.ErrPool]) < 50 {
		t.Errorf("too few of a kind: %v", anews)
	}
}

// Promises 26.1 to 26.3: wherever the power goes while a journal is written anew, and flushed, and whatever stays: of the first one all that was flushed is found, and of the other one the first entries alone, in order, or, if it was flushed, all.
func TestCrashes(t *testing.T) {
	cut := map[bool]int{}
	for seed := range 1500 {
		r := rand.New(rand.NewSource(int64(seed)))
		v, p := opened(t, 8), pooled(t, 8, epoch)
		j, e := journal.New(v, p, 2, 7)
		wants(t, "New", e, api.OK)
		var old, l []api.Frame
		for range 20 {
			old = append(old, random(r, 60))
		}
		for range 1 + r.Intn(20) {
			l = append(l, random(r, 60))
		}
		puts(t, j, old...)
		wants(t, "Flush", v.Flush(), api.OK)
		v.Fuse(r.Intn(60))
		x, e := j.Anew(l)
		if e == api.OK {
			e = v.Flush()
		}
		if x != nil && e == api.OK && r.Intn(2) == 0 {
			e = j.Free()
			old = nil
		}
		flushed := e == api.OK || x != nil && old == nil
		var keeps []api.Keep
		for _, i := range r.Perm(v.Waiting() + 1) {
			if r.Intn(4) > 0 {
				keeps = append(keeps, api.Keep{Index: i, Bytes: []int{64, 64, 63, 6, r.Intn(66)}[r.Intn(5)]})
			}
		}
		wants(t, "Crash", v.Crash(keeps), api.OK)
		if y, _, _ := found(t, v, 8, 7); old != nil && !slices.Equal(y.Frames(), old) {
			t.Fatalf("%v, not %v", y.Frames(), old)
		}
		y, _, _ := found(t, v, 8, 8)
		frames := y.Frames()
		if len(frames) > len(l) || !slices.Equal(frames, l[:len(frames)]) || flushed && len(frames) < len(l) {
			t.Fatalf("%v, not %v", frames, l)
		}
		cut[len(frames) < len(l)]++
	}
	if min(cut[true], cut[false]) < 100 {
		t.Errorf("too few of a kind: %v", cut)
	}
}
