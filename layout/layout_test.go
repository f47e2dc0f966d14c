package layout_test

import (
	"math"
	"math/rand"
	"slices"
	"testing"

	"weighlock/api"
	"weighlock/disk"
	"weighlock/layout"
)

// made is the layout of numbers of segments that may be.
func made(t *testing.T, segs ...int) *layout.Layout {
	t.Helper()
	l, e := layout.New(segs)
	if l == nil || e != api.OK {
		t.Fatalf("New(%v): %v, %v", segs, l, e)
	}
	return l
}

// strangers are numbers that are no label of n labels.
func strangers(n int) []int { return []int{-1, n, n + 1, 6, 7, math.MaxInt, math.MinInt} }

// ownersOf tells of each sector its label, by the words of the chapter: sector by sector, as extents come.
func ownersOf(segs []int) []int {
	var owners []int
	for label, n := range segs {
		owners = append(owners, label, label)
		for range n {
			owners = append(owners, slices.Repeat([]int{label}, 16)...)
		}
	}
	return owners
}

// holds asks a layout for all that the chapter tells of its segments.
func holds(t *testing.T, l *layout.Layout, segs []int) {
	t.Helper()
	owners := ownersOf(segs)
	if l.Labels() != len(segs) || l.Sectors() != len(owners) {
		t.Fatalf("%v: Labels: %d; Sectors: %d", segs, l.Labels(), l.Sectors())
	}
	for label, n := range segs {
		want := layout.Span{From: slices.Index(owners, label), N: 2 + 16*n}
		if x, e := l.Extent(label); x != want || e != api.OK {
			t.Fatalf("%v: Extent(%d): %v, %v, not %v", segs, label, x, e, want)
		}
	}
	for sector, want := range owners {
		if n, e := l.Owner(sector); n != want || e != api.OK {
			t.Fatalf("%v: Owner(%d): %d, %v, not %d", segs, sector, n, e, want)
		}
	}
	for _, no := range strangers(len(segs)) {
		if x, e := l.Extent(no); x != (layout.Span{}) || e != api.ErrArg {
			t.Fatalf("%v: Extent(%d): %v, %v", segs, no, x, e)
		}
	}
	for _, no := range []int{-1, -98, len(owners), len(owners) + 1, 1 << 20, math.MaxInt, math.MinInt} {
		if n, e := l.Owner(no); n != 0 || e != api.ErrRange {
			t.Fatalf("%v: Owner(%d): %d, %v", segs, no, n, e)
		}
	}
}

// Promise 6.1: one label, of each number of segments that may be.
func TestOneLabel(t *testing.T) {
	for n := 6; n <= 64; n++ {
		holds(t, made(t, n), []int{n})
	}
}

// Promise 6.1: so many labels as may be, of any segments.
func TestManyLabels(t *testing.T) {
	for _, segs := range [][]int{
		{6, 8}, {8, 6}, {6, 6}, {64, 64}, {6, 64, 7}, {64, 6, 63},
		{6, 6, 6, 6, 6, 6}, {64, 64, 64, 64, 64, 64}, {6, 64, 6, 64, 6, 64}, {9, 8, 7, 6, 10, 11},
	} {
		holds(t, made(t, segs...), segs)
	}
	r := rand.New(rand.NewSource(6))
	for range 60 {
		segs := make([]int, 1+r.Intn(6))
		for i := range segs {
			segs[i] = 6 + r.Intn(59)
		}
		holds(t, made(t, segs...), segs)
	}
}

// Promise 6.1: labels that are none or too many, and numbers of segments that may not be, wherever they stand.
func TestWrongSegments(t *testing.T) {
	wrong := [][]int{nil, {}, {6, 6, 6, 6, 6, 6, 6}, slices.Repeat([]int{64}, 7), slices.Repeat([]int{6}, 100), {0, 0, 0, 0, 0, 0, 0}}
	for _, n := range []int{5, 0, -1, -6, 65, 66, 1 << 20, math.MaxInt, math.MinInt, math.MaxInt / 16} {
		wrong = append(wrong, []int{n})
		for at := range 6 {
			segs := []int{6, 64, 7, 63, 8, 62}
			segs[at] = n
			wrong = append(wrong, segs)
		}
	}
	for _, segs := range wrong {
		if l, e := layout.New(segs); l != nil || e != api.ErrArg {
			t.Errorf("New(%v): %v, %v", segs, l, e)
		}
	}
}

// Promise 6.1: of nil; and rule R1: no call dies, not even of what New never gave.
func TestNil(t *testing.T) {
	var none *layout.Layout
	for _, n := range []int{-1, 0, 1} {
		if x, e := none.Extent(n); x != (layout.Span{}) || e != api.ErrState {
			t.Errorf("Extent(%d): %v, %v", n, x, e)
		}
		if x, e := none.Owner(n); x != 0 || e != api.ErrState {
			t.Errorf("Owner(%d): %d, %v", n, x, e)
		}
	}
	if none.Labels() != 0 || none.Sectors() != 0 {
		t.Errorf("Labels: %d; Sectors: %d", none.Labels(), none.Sectors())
	}
	holds(t, new(layout.Layout), nil)
}

// The example of the chapter.
func TestExample(t *testing.T) {
	l := made(t, 6, 8)
	for label, want := range []layout.Span{{From: 0, N: 98}, {From: 98, N: 130}} {
		if x, e := l.Extent(label); x != want || e != api.OK {
			t.Errorf("Extent(%d): %v, %v", label, x, e)
		}
	}
}

// Promise 6.2: each sector is in just one extent, that of its owner; none is left over.
func TestEachSectorHasOneOwner(t *testing.T) {
	r := rand.New(rand.NewSource(2))
	for range 30 {
		segs := make([]int, 1+r.Intn(6))
		for i := range segs {
			segs[i] = 6 + r.Intn(59)
		}
		l := made(t, segs...)
		for sector := range l.Sectors() {
			owner, e := l.Owner(sector)
			if e != api.OK {
				t.Fatalf("%v: Owner(%d): %v", segs, sector, e)
			}
			for label := range l.Labels() {
				x, e := l.Extent(label)
				within := sector >= x.From && sector < x.From+x.N
				if e != api.OK || within != (label == owner) {
					t.Fatalf("%v: the sector %d of %d, and the extent of %d: %v, %v", segs, sector, owner, label, x, e)
				}
			}
		}
	}
}

// The greatest layout finds room on a disk: what is parted is all that a broker has.
func TestGreatestFitsADisk(t *testing.T) {
	l := made(t, 64, 64, 64, 64, 64, 64)
	d, e := disk.New(l.Sectors())
	if e != api.OK || d.Size() != 6156 {
		t.Errorf("%d sectors: %v", l.Sectors(), e)
	}
}

// Rule R3: segments are neither changed nor kept; each layout is one of its own.
func TestMemoryOfItsOwn(t *testing.T) {
	segs := []int{6, 8, 10}
	l := made(t, segs...)
	if !slices.Equal(segs, []int{6, 8, 10}) {
		t.Errorf("the segments were changed: %v", segs)
	}
	segs[0], segs[2] = 64, 0
	other := made(t, 7, 7)
	holds(t, l, []int{6, 8, 10})
	holds(t, other, []int{7, 7})
	holds(t, l, []int{6, 8, 10}) // rule R6: asked again it tells the same
}
