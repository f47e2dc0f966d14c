package scan_test

import (
	"math"
	"math/rand"
	"slices"
	"strings"
	"testing"

	"weighlock/api"
	"weighlock/disk"
	"weighlock/header"
	"weighlock/pool"
	"weighlock/scan"
	"weighlock/seglog"
	"weighlock/segment"
	"weighlock/view"
)

const (
	beyond  = 3 // sectors of the disk ahead of each view, and behind it
	maxBase = 1 << 40
)

// of is a frame of a kind, with so many bytes of payload.
func of(kind, size int) api.Frame { return api.Frame{Kind: kind, Payload: strings.Repeat("x", size)} }

// wants asks for an answer.
func wants(t *testing.T, what string, e, want api.Errno) {
	t.Helper()
	if e != want {
		t.Fatalf("%s: %v, not %v", what, e, want)
	}
}

// opened is a view of so many segments, between others of the disk.
func opened(t *testing.T, segs int) (*disk.Disk, *view.View) {
	t.Helper()
	d, e := disk.New(2*beyond + 2 + 16*segs)
	wants(t, "disk.New", e, api.OK)
	v, e := view.New(d, beyond, 2+16*segs)
	wants(t, "view.New", e, api.OK)
	return d, v
}

// of4 is a header of the log 4, gen 2.
func of4(stamp uint32, base int) header.Header {
	return header.Header{Log: 4, Gen: 2, Stamp: stamp, Base: base}
}

// part is a segment that was made, with a number of frames.
func part(t *testing.T, v *view.View, n int, h header.Header, frames int) *segment.Segment {
	t.Helper()
	s, e := segment.Create(v, n, h)
	wants(t, "Create", e, api.OK)
	for i := range frames {
		_, e := s.Append(of(1+i, 3))
		wants(t, "Append", e, api.OK)
	}
	return s
}

// parts are segments of a view, that have the numbers from 0 on, with the frames and headers of a list.
func parts(t *testing.T, v *view.View, l []piece) []*segment.Segment {
	t.Helper()
	var segs []*segment.Segment
	for n, p := range l {
		segs = append(segs, part(t, v, n, p.h, p.frames))
	}
	return segs
}

// piece is what a segment has.
type piece struct {
	h      header.Header
	frames int
}

// told are the segments' numbers; -1 of a nil one.
func told(l []*segment.Segment) []int {
	var numbers []int
	for _, s := range l {
		if s == nil {
			numbers = append(numbers, -1)
		} else {
			numbers = append(numbers, s.Number())
		}
	}
	return numbers
}

// finds asks for the segments that can be loaded, and that nothing is changed thereby.
func finds(t *testing.T, v *view.View, segs int, want ...int) []*segment.Segment {
	t.Helper()
	steps, waiting := v.Steps(), v.Waiting()
	l, e := scan.All(v, segs)
	if e != api.OK || !slices.Equal(told(l), want) || v.Steps() != steps || v.Waiting() != waiting {
		t.Fatalf("All(%d): %v, %v, not %v", segs, told(l), e, want)
	}
	return l
}

// fails asks for why no segments are told.
func fails(t *testing.T, v *view.View, segs int, want api.Errno) {
	t.Helper()
	if l, e := scan.All(v, segs); len(l) != 0 || e != want {
		t.Fatalf("All(%d): %v, %v, not %v", segs, told(l), e, want)
	}
}

// image are all sectors of a disk, as they are read.
func image(t *testing.T, d *disk.Disk) []string {
	t.Helper()
	var l []string
	for at := range d.Size() {
		s, e := d.Read(at)
		wants(t, "disk.Read", e, api.OK)
		l = append(l, s)
	}
	return l
}

// sector is the place of a segment's first sector on the disk.
func sector(n int) int { return beyond + 2 + 16*n }

// spoil writes a byte of a sector of the disk anew.
func spoil(t *testing.T, d *disk.Disk, at, place int) {
	t.Helper()
	s, e := d.Read(at)
	wants(t, "disk.Read", e, api.OK)
	wants(t, "disk.Write", d.Write(at, s[:place]+string(s[place]^1)+s[place+1:]), api.OK)
}

// Promise 15.1: those that can be loaded, whatever lies in the others, rising, as they are loaded.
func TestAll(t *testing.T) {
	d, v := opened(t, 8)
	finds(t, v, 8)
	made := []piece{{of4(9, 4), 2}, {of4(7, 8), 0}, {header.Header{Log: 65535, Gen: 1 << 31, Stamp: 5, Base: maxBase}, 15}, {of4(9, 4), 1}, {of4(3, 1), 3}, {of4(8, 2), 3}, {of4(6, 2), 3}}
	parts(t, v, made)
	finds(t, v, 8, 0, 1, 2, 3, 4, 5, 6)
	wants(t, "Wipe", segment.Wipe(v, 0), api.OK)
	spoil(t, d, sector(3), 5)    // its first seal
	spoil(t, d, sector(4), 10)   // its header
	spoil(t, d, sector(5)+2, 60) // a seal of its second frame
	spoil(t, d, sector(6), 57)   // bytes behind its header, which tell nothing
	l := finds(t, v, 8, 1, 2, 5, 6)
	for _, s := range l {
		want := made[s.Number()]
		if s.Number() == 5 {
			want.frames = 1
		}
		if s.Header() != want.h || s.Len() != want.frames || s.End() != 1+want.frames || !s.Sealed() {
			t.Errorf("segment %d: %v, %v", s.Number(), s.Header(), s.Frames())
		}
		for i, f := range s.Frames() {
			if f != of(1+i, 3) {
				t.Errorf("segment %d: %v", s.Number(), s.Frames())
			}
		}
	}
}

// Promise 15.1: of so many segments alone, and of all that a view has.
func TestAllOfSome(t *testing.T) {
	_, v := opened(t, 6)
	parts(t, v, []piece{{of4(1, 0), 1}, {of4(2, 1), 1}, {of4(3, 2), 1}, {of4(4, 3), 1}, {of4(5, 4), 1}, {of4(6, 5), 1}})
	for _, segs := range []int{math.MinInt, -1, 0} {
		finds(t, v, segs)
	}
	for segs := range 7 {
		finds(t, v, segs, []int{0, 1, 2, 3, 4, 5}[:segs]...)
	}
	for _, segs := range []int{7, 8, 64, math.MaxInt} {
		fails(t, v, segs, api.ErrRange)
	}
}

// Promise 15.1: the errors: of nil, of a power that is gone, and beyond a view, and the first one of these.
func TestAllsErrors(t *testing.T) {
	for _, segs := range []int{math.MinInt, -1, 0, 1, 6, math.MaxInt} {
		fails(t, nil, segs, api.ErrState)
	}
	_, v := opened(t, 2)
	part(t, v, 0, of4(1, 0), 1)
	v.Fuse(0)
	finds(t, v, 2, 0) // the power goes with a step alone
	wants(t, "Flush", v.Flush(), api.ErrPower)
	finds(t, v, 0)
	for _, segs := range []int{1, 2, 3, math.MaxInt} {
		fails(t, v, segs, api.ErrPower)
	}
	wants(t, "Crash", v.Crash(nil), api.OK)
	finds(t, v, 2)
	fails(t, v, 3, api.ErrRange)
	fails(t, new(view.View), 1, api.ErrRange)
}

// Promise 15.1: what is told has memory of its own (rule R3).
func TestAllsMemory(t *testing.T) {
	_, v := opened(t, 6)
	parts(t, v, []piece{{of4(1, 0), 1}, {of4(2, 1), 2}})
	l := finds(t, v, 6, 0, 1)
	clear(l)
	wants(t, "Wipe", segment.Wipe(v, 0), api.OK)
	if x := finds(t, v, 6, 1); x[0].Len() != 2 {
		t.Errorf("%v", x[0].Frames())
	}
}

// links asks for a chain, also of the segments in other orders, with nil ones among them, and of a list that stays as it is.
func links(t *testing.T, l []*segment.Segment, id int, gen uint32, from int, want ...int) {
	t.Helper()
	r := rand.New(rand.NewSource(int64(len(l))))
	for range 5 {
		was := slices.Clone(l)
		chain := scan.Chain(l, id, gen, from)
		if !slices.Equal(told(chain), want) {
			t.Fatalf("Chain(%d, %d, %d) of %v: %v, not %v", id, gen, from, told(l), told(chain), want)
		}
		clear(chain[:cap(chain)])
		if !slices.Equal(l, was) {
			t.Fatal("the list is another one")
		}
		l = append(was, nil)
		r.Shuffle(len(l), func(i, k int) { l[i], l[k] = l[k], l[i] })
	}
}

// The example of the chapter, from each number on.
func TestExample(t *testing.T) {
	_, v := opened(t, 6)
	l := parts(t, v, []piece{{of4(1, 0), 5}, {of4(2, 5), 3}, {of4(3, 9), 2}})
	for from := range 5 {
		links(t, l, 4, 2, from, 0, 1)
	}
	for from := 5; from < 8; from++ {
		links(t, l, 4, 2, from, 1)
	}
	links(t, l, 4, 2, 8) // it is not there, and what comes behind it does not begin a chain
	links(t, l, 4, 2, 9, 2)
	links(t, l, 4, 2, 10, 2)
	for _, from := range []int{11, 12, maxBase, math.MaxInt, -1, math.MinInt} {
		links(t, l, 4, 2, from)
	}
}

// Promise 15.2: segments of other logs and gens do not count.
func TestChainOfALog(t *testing.T) {
	_, v := opened(t, 6)
	other := func(id int, gen uint32, base int) header.Header {
		return header.Header{Log: id, Gen: gen, Stamp: uint32(base), Base: base}
	}
	l := parts(t, v, []piece{{other(4, 2, 0), 3}, {other(5, 2, 3), 2}, {other(4, 3, 3), 2}, {other(4, 2, 5), 1}, {other(4, 3, 5), 1}, {other(5, 2, 5), 1}})
	links(t, l, 4, 2, 0, 0)
	links(t, l, 4, 2, 3)
	links(t, l, 4, 2, 5, 3)
	links(t, l, 5, 2, 0)
	links(t, l, 5, 2, 3, 1, 5)
	links(t, l, 4, 3, 4, 2, 4)
	for _, from := range []int{0, 3, 5} {
		links(t, l, 5, 3, from)
		links(t, l, 0, 2, from)
		links(t, l, -4, 2, from)
		links(t, l, 4+1<<32, 2, from)
		links(t, l, 4, 1<<31+2, from)
		links(t, l, math.MaxInt, math.MaxUint32, from)
	}
}

// Promise 15.2: segments without a frame from the number on do not count, be they where they may.
func TestChainWithoutFrames(t *testing.T) {
	_, v := opened(t, 8)
	l := parts(t, v, []piece{{of4(1, 0), 0}, {of4(2, 0), 3}, {of4(3, 3), 0}, {of4(4, 3), 2}, {of4(5, 5), 0}, {of4(6, 10), 0}, {of4(0, 0), 2}})
	links(t, l[:6], 4, 2, 0, 1, 3)
	links(t, l[:6], 4, 2, 3, 3)
	links(t, l[:6], 4, 2, 4, 3)
	links(t, l[:6], 4, 2, 5)
	links(t, l[:6], 4, 2, 10)
	links(t, l, 4, 2, 1, 6)    // the one that comes ahead of all, and goes to 2, which none begins with
	links(t, l, 4, 2, 2, 1, 3) // where that has no frame it does not count
	links(t, []*segment.Segment{new(segment.Segment)}, 0, 0, 0)
	links(t, []*segment.Segment{new(segment.Segment)}, 0, 0, -1)
	links(t, []*segment.Segment{nil}, 0, 0, 0)
	links(t, nil, 4, 2, 0)
}

// Promise 15.2: the one ahead of all that count goes first, by Base, then by Stamp, however many frames it has.
func TestChainsOrder(t *testing.T) {
	_, v := opened(t, 9)
	l := parts(t, v, []piece{{of4(9, 2), 3}, {of4(4, 2), 1}, {of4(5, 1), 4}, {of4(9, 3), 3}, {of4(8, 3), 2}, {of4(7, 5), 1}, {of4(6, 5), 2}, {of4(3, 6), 1}, {of4(1<<31, 7), 1}})
	links(t, l, 4, 2, 1, 2, 6, 8)
	links(t, l, 4, 2, 2, 2, 6, 8)     // 1 to 4 come ahead of 2 alone
	links(t, l[:2], 4, 2, 2, 1)       // 2 alone comes ahead of 2 to 4
	links(t, l[3:], 4, 2, 3, 4, 6, 8) // by the stamp 8 ahead of 9, then by 6 ahead of 7
	links(t, l[3:6], 4, 2, 4, 4, 5)   // both have 4
	links(t, l[3:4], 4, 2, 4, 3)      // whose end is 6, not 5
	links(t, l[5:], 4, 2, 5, 6, 8)    // what begins at 6 lies in it, and is not asked for
	links(t, l[7:], 4, 2, 6, 7, 8)    // but here
	links(t, l[:5], 4, 2, 4, 2)       // it has 4, and comes ahead of all
	links(t, l[:2], 4, 2, 3, 0)       // the smaller stamp has no 3
	links(t, append(l[:2:2], l[:2]...), 4, 2, 2, 1)
}

// Promise 15.2: bases and numbers at their ends.
func TestChainsEnds(t *testing.T) {
	_, v := opened(t, 6)
	l := parts(t, v, []piece{{of4(1, maxBase-2), 2}, {of4(2, maxBase), 15}, {of4(3, 0), 1}})
	links(t, l, 4, 2, maxBase-2, 0, 1)
	links(t, l, 4, 2, maxBase-1, 0, 1)
	links(t, l, 4, 2, maxBase, 1)
	links(t, l, 4, 2, maxBase+14, 1)
	links(t, l, 4, 2, maxBase+15)
	links(t, l, 4, 2, 0, 2)
	links(t, l, 4, 2, 1)
	links(t, l, 4, 2, math.MaxInt)
	links(t, l, 4, 2, math.MinInt)
}

// linked is a chain, by the words of the chapter: of all that count, in their order.
func linked(l []*segment.Segment, id int, gen uint32, from int) []*segment.Segment {
	var all, chain []*segment.Segment
	for _, s := range l {
		has := false
		for i := range s.Len() {
			has = has || s.Header().Base+i >= from
		}
		if s != nil && s.Header().Log == id && s.Header().Gen == gen && has {
			all = append(all, s)
		}
	}
	slices.SortStableFunc(all, func(a, b *segment.Segment) int {
		x, y := a.Header(), b.Header()
		if x.Base != y.Base {
			return x.Base - y.Base
		}
		return int(x.Stamp) - int(y.Stamp)
	})
	at := slices.IndexFunc(all, func(s *segment.Segment) bool { return s.Header().Base <= from })
	for at >= 0 {
		chain = append(chain, all[at])
		next := all[at].Header().Base + all[at].Len()
		at = slices.IndexFunc(all, func(s *segment.Segment) bool { return s.Header().Base == next })
	}
	return chain
}

// Promise 15.2: of any segments the chain is that of the words.
func TestChainAgainstTheWords(t *testing.T) {
	r := rand.New(rand.NewSource(3))
	lengths := map[int]int{}
	for range 1500 {
		_, v := opened(t, 12)
		var l []piece
		for range r.Intn(13) {
			l = append(l, piece{header.Header{Log: 1 + r.Intn(2)*r.Intn(2), Gen: uint32(r.Intn(2) * r.Intn(2)), Stamp: uint32(r.Intn(9)*100 + len(l)), Base: r.Intn(9)}, r.Intn(4)})
		}
		segs := parts(t, v, l)
		for from := -1; from < 13; from++ {
			for id := 1; id < 3; id++ {
				for gen := range uint32(2) {
					want := told(linked(segs, id, gen, from))
					links(t, segs, id, gen, from, want...)
					lengths[len(want)]++
				}
			}
		}
	}
	if len(lengths) < 5 {
		t.Errorf("too few kinds of chains: %v", lengths)
	}
}

// cleans asks for which segments are left, that no other sector is changed, and that nothing waits.
func cleans(t *testing.T, d *disk.Disk, v *view.View, l, kept []*segment.Segment, wiped int, want ...int) {
	t.Helper()
	was, steps := image(t, d), v.Steps()
	before, after := slices.Clone(l), slices.Clone(kept)
	wants(t, "Clean", scan.Clean(v, l, kept), api.OK)
	if v.Waiting() != 0 || v.Steps()-steps != wiped+1 || !slices.Equal(l, before) || !slices.Equal(kept, after) {
		t.Fatalf("%d writes wait, %d steps", v.Waiting(), v.Steps()-steps)
	}
	finds(t, v, 6, want...)
	for at, now := range image(t, d) {
		isFirst := at >= sector(0) && (at-sector(0))%16 == 0
		gone := isFirst && now == strings.Repeat("\x00", 64)
		if now != was[at] && !gone {
			t.Fatalf("sector %d is another one", at)
		}
	}
}

// six are six segments of a view.
func six(t *testing.T) (*disk.Disk, *view.View, []*segment.Segment) {
	t.Helper()
	d, v := opened(t, 6)
	l := parts(t, v, []piece{{of4(1, 0), 1}, {of4(2, 1), 0}, {of4(3, 2), 15}, {of4(4, 3), 1}, {of4(5, 4), 2}, {of4(6, 5), 1}})
	wants(t, "Flush", v.Flush(), api.OK)
	return d, v, l
}

// Promise 15.3: which segments go: those of the list that are none of those that are kept.
func TestClean(t *testing.T) {
	for kept := range 64 {
		d, v, l := six(t)
		var stay []*segment.Segment
		var want []int
		for n := range 6 {
			if kept>>n&1 == 1 {
				stay = append(stay, l[n])
				want = append(want, n)
			}
		}
		slices.Reverse(stay)
		cleans(t, d, v, l, stay, 6-len(want), want...)
		all := finds(t, v, 6, want...)
		cleans(t, d, v, all, stay, 0, want...)
	}
}

// Promise 15.3: nil ones are no segments of the number 0, neither among those to be wiped, nor among those to be kept.
func TestCleanWithNil(t *testing.T) {
	d, v, l := six(t)
	cleans(t, d, v, []*segment.Segment{nil}, nil, 0, 0, 1, 2, 3, 4, 5)
	cleans(t, d, v, []*segment.Segment{nil, l[3], nil}, []*segment.Segment{nil, l[4]}, 1, 0, 1, 2, 4, 5)
	cleans(t, d, v, []*segment.Segment{l[0], nil}, []*segment.Segment{nil}, 1, 1, 2, 4, 5)
	cleans(t, d, v, nil, nil, 0, 1, 2, 4, 5)
	cleans(t, d, v, nil, l, 0, 1, 2, 4, 5)
	cleans(t, d, v, l[1:3], l[4:], 2, 4, 5) // what is in neither list stays
	cleans(t, d, v, l[4:], l[:4], 2)
}

// Promise 15.3: segments are kept by their numbers, not as the same objects.
func TestCleanByNumbers(t *testing.T) {
	d, v, l := six(t)
	again := finds(t, v, 6, 0, 1, 2, 3, 4, 5)
	cleans(t, d, v, l, again[2:4], 4, 2, 3)
	_, _, strange := six(t)
	cleans(t, d, v, again[:4], []*segment.Segment{strange[3], new(segment.Segment)}, 2, 3)
}

// Promise 15.3: writes that wait are flushed, also where none is wiped.
func TestCleanFlushes(t *testing.T) {
	d, v := opened(t, 6)
	l := parts(t, v, []piece{{of4(1, 0), 1}, {of4(2, 1), 1}})
	cleans(t, d, v, nil, nil, 0, 0, 1)
	part(t, v, 2, of4(3, 2), 1)
	cleans(t, d, v, l, nil, 2, 2)
	wants(t, "Crash", v.Crash(nil), api.OK)
	finds(t, v, 6, 2)
}

// Promise 15.3: segments go in the order of the list: where the power goes, those ahead are wiped.
func TestPowerInClean(t *testing.T) {
	for fuse := range 6 {
		_, v, l := six(t)
		v.Fuse(fuse)
		order := []*segment.Segment{l[4], l[0], nil, l[5], l[1], l[2], l[3]}
		want := api.ErrPower
		if fuse == 5 {
			want = api.OK
		}
		wants(t, "Clean", scan.Clean(v, order, l[2:4]), want)
		if v.Dead() != (fuse < 5) || v.Steps() != 6*1+20+1+fuse {
			t.Fatalf("%v, %d steps", v.Dead(), v.Steps())
		}
		var keeps []api.Keep
		for i := range v.Waiting() {
			keeps = append(keeps, api.Keep{Index: i, Bytes: 64})
		}
		wants(t, "Crash", v.Crash(keeps), api.OK)
		finds(t, v, 6, [][]int{{0, 1, 2, 3, 4, 5}, {0, 1, 2, 3, 5}, {1, 2, 3, 5}, {1, 2, 3}, {2, 3}, {2, 3}}[fuse]...)
	}
}

// Promise 15.3: the errors, and the first one of them; beside one that is not of the power nothing is changed (rule R4).
func TestCleansErrors(t *testing.T) {
	_, _, l := six(t)
	for _, l := range [][]*segment.Segment{nil, {nil}, l} {
		wants(t, "Clean of nil", scan.Clean(nil, l, nil), api.ErrState)
		wants(t, "Clean of nil", scan.Clean(nil, l, l), api.ErrState)
	}
	d, v := opened(t, 4)
	parts(t, v, []piece{{of4(1, 0), 1}, {of4(2, 1), 1}, {of4(3, 2), 1}, {of4(4, 3), 1}})
	was, steps := image(t, d), v.Steps()
	for _, wide := range [][]*segment.Segment{l, l[4:], {l[0], nil, l[5]}, {l[5], l[0]}} { // the view has four of six
		wants(t, "Clean beyond", scan.Clean(v, wide, nil), api.ErrRange)
		wants(t, "Clean beyond", scan.Clean(v, wide, l[:4]), api.ErrRange)
		if v.Steps() != steps || !slices.Equal(image(t, d), was) {
			t.Fatal("something is changed")
		}
	}
	wants(t, "Clean", scan.Clean(v, l, l[2:]), api.OK)
	finds(t, v, 4, 2, 3)
	v.Fuse(0)
	wants(t, "Flush", v.Flush(), api.ErrPower)
	wants(t, "Clean without power", scan.Clean(v, nil, nil), api.ErrPower)
	wants(t, "Clean without power", scan.Clean(v, l[:4], nil), api.ErrPower)
	wants(t, "Clean without power", scan.Clean(v, l, nil), api.ErrPower)
	wants(t, "Clean beyond", scan.Clean(v, l[5:], nil), api.ErrRange)
	wants(t, "Clean beyond", scan.Clean(new(view.View), l, nil), api.ErrRange)
}

// Promise 15.5: behind Clean of all that lies there, those that are kept can be loaded alone; done twice it changes nothing.
func TestCleanTwice(t *testing.T) {
	r := rand.New(rand.NewSource(4))
	for range 300 {
		d, v := opened(t, 6)
		for n := range 6 {
			if r.Intn(4) > 0 {
				part(t, v, n, of4(uint32(n), r.Intn(4)), r.Intn(4))
			}
		}
		l, e := scan.All(v, 6)
		wants(t, "All", e, api.OK)
		kept := scan.Chain(l, 4, 2, r.Intn(3))
		want := slices.Sorted(slices.Values(told(kept)))
		cleans(t, d, v, l, kept, len(l)-len(kept), want...)
		was := image(t, d)
		for _, again := range [][]*segment.Segment{l, finds(t, v, 6, want...)} {
			wants(t, "Clean", scan.Clean(v, again, kept), api.OK)
			if !slices.Equal(image(t, d), was) {
				t.Fatal("twice is not as once")
			}
		}
		wants(t, "Crash", v.Crash([]api.Keep{{Index: 0, Bytes: 64}}), api.OK)
		finds(t, v, 6, want...)
	}
}

// crashing is a log, all that was put into it, and how far it was flushed.
type crashing struct {
	g           *seglog.Log
	id          int
	gen         uint32
	first, base int
	put         []api.Frame
	flushed     int // the next number at that time
}

// step does something with a log; the error of the power.
func (c *crashing) step(r *rand.Rand) api.Errno {
	e := c.do(r)
	c.base = c.g.Base()
	return e
}

// do is what a step does.
func (c *crashing) do(r *rand.Rand) api.Errno {
	switch r.Intn(16) {
	case 0:
		return c.g.Free()
	case 1, 2:
		return c.g.Drop(c.g.Base() + r.Intn(c.g.Next()-c.g.Base()+1))
	}
	f := api.Frame{Kind: 1 + r.Intn(255), Payload: strings.Repeat(string(rune('a'+r.Intn(26))), r.Intn(40+r.Intn(2)*300))}
	_, e := c.g.Append(f)
	if e == api.OK {
		c.put = append(c.put, f)
	}
	if e == api.ErrPool {
		return c.g.Drop(c.g.Next())
	}
	return e
}

// found asks for a chain that has all that was flushed, and goes on with some of what was put.
func (c *crashing) found(t *testing.T, l []*segment.Segment) []*segment.Segment {
	t.Helper()
	chain := scan.Chain(l, c.id, c.gen, c.base)
	if !slices.Equal(chain, linked(l, c.id, c.gen, c.base)) {
		t.Fatalf("%v", told(chain))
	}
	next := c.base
	for i, s := range chain {
		from := s.Header().Base
		if i == 0 && from > c.base || i > 0 && from != next || from < c.first {
			t.Fatalf("from %d, not %d", from, next)
		}
		next = from + s.Len()
		if next > c.first+len(c.put) || !slices.Equal(s.Frames(), c.put[from-c.first:next-c.first]) {
			t.Fatalf("from %d: %v", from, s.Frames())
		}
	}
	if next < c.flushed {
		t.Fatalf("up to %d, flushed to %d", next, c.flushed)
	}
	return chain
}

// adopt has a log go on with its chain.
func (c *crashing) adopt(t *testing.T, v *view.View, p *pool.Pool, chain []*segment.Segment) {
	t.Helper()
	g, e := seglog.New(v, p, c.id, c.gen, c.base)
	wants(t, "New", e, api.OK)
	wants(t, "Adopt", g.Adopt(chain), api.OK)
	c.g, c.base, c.put, c.flushed = g, g.Base(), c.put[:g.Next()-c.first], g.Next()
}

// goes lets the power go, and leaves some of what waits.
func goes(t *testing.T, r *rand.Rand, v *view.View) {
	t.Helper()
	var keeps []api.Keep
	for _, i := range r.Perm(v.Waiting() + 1) {
		if r.Intn(5) > 0 {
			keeps = append(keeps, api.Keep{Index: i, Bytes: []int{64, 64, 64, 63, 58, 6, r.Intn(66)}[r.Intn(7)]})
		}
	}
	wants(t, "Crash", v.Crash(keeps), api.OK)
}

// runs does steps with logs, some of which are flushed, till the power goes.
func runs(r *rand.Rand, v *view.View, logs []*crashing) {
	v.Fuse(r.Intn(120))
	for e := api.OK; e == api.OK; {
		e = logs[r.Intn(len(logs))].step(r)
		if e != api.OK || r.Intn(6) > 0 {
			continue
		}
		if e = v.Flush(); e == api.OK {
			for _, c := range logs {
				c.flushed = c.g.Next()
			}
		}
	}
}

// boots finds all logs again, and cleans the rest away, however often the power goes in that.
func boots(t *testing.T, r *rand.Rand, v *view.View, p *pool.Pool, logs []*crashing) {
	t.Helper()
	var before []int
	for try := 0; ; try++ {
		l, e := scan.All(v, p.Size())
		wants(t, "All", e, api.OK)
		var chains [][]*segment.Segment
		for _, c := range logs {
			chains = append(chains, c.found(t, l))
		}
		kept := slices.Concat(chains...)
		if try > 0 && !slices.Equal(told(kept), before) {
			t.Fatalf("%v, not %v, once it was cleaned in part", told(kept), before)
		}
		before = told(kept)
		if try == 0 {
			v.Fuse(r.Intn(12))
		}
		if e := scan.Clean(v, l, kept); e == api.ErrPower {
			goes(t, r, v)
			continue
		}
		finds(t, v, p.Size(), slices.Sorted(slices.Values(before))...)
		for i, c := range logs {
			c.adopt(t, v, p, chains[i])
		}
		return
	}
}

// Promise 15.4: wherever the power goes, again and again, of each log the chain from its base on has all that was flushed, and then some of what was put.
func TestCrashes(t *testing.T) {
	kinds := map[int]int{}
	for seed := range 600 {
		r := rand.New(rand.NewSource(int64(seed)))
		segs := 6 + r.Intn(4)
		_, v := opened(t, segs)
		var logs []*crashing
		for i := range 3 {
			first := r.Intn(50)
			logs = append(logs, &crashing{id: 4 + i%2, gen: uint32(i), first: first, base: first, flushed: first})
		}
		for epoch := range 5 {
			p, e := pool.New(segs, epoch)
			wants(t, "pool.New", e, api.OK)
			flushed := logs[0].flushed
			boots(t, r, v, p, logs)
			kinds[logs[0].flushed-max(flushed, logs[0].base)]++
			runs(r, v, logs)
			goes(t, r, v)
		}
	}
	if len(kinds) < 4 {
		t.Errorf("too few kinds of crashes: %v", kinds)
	}
}
