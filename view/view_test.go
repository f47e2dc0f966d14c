package view_test

import (
	"fmt"
	"math"
	"math/rand"
	"slices"
	"strings"
	"testing"

	"weighlock/api"
	"weighlock/disk"
	"weighlock/view"
)

// fill is a sector of one letter.
func fill(letter string) string { return strings.Repeat(letter, api.Sector) }

// blank is a sector of a new disk.
var blank = fill("\x00")

// opened is a view that may be, of a new disk of so many sectors.
func opened(t *testing.T, sectors, from, n int) (*disk.Disk, *view.View) {
	t.Helper()
	d, e := disk.New(sectors)
	if e != api.OK {
		t.Fatal(e)
	}
	return d, another(t, d, from, n)
}

// another is a view of a disk that there is.
func another(t *testing.T, d *disk.Disk, from, n int) *view.View {
	t.Helper()
	v, e := view.New(d, from, n)
	if v == nil || e != api.OK {
		t.Fatalf("New(%d, %d): %v, %v", from, n, v, e)
	}
	return v
}

// wants asks for an answer.
func wants(t *testing.T, what string, e, want api.Errno) {
	t.Helper()
	if e != want {
		t.Errorf("%s: %v, not %v", what, e, want)
	}
}

// stands asks for a view's numbers, and whether its power is gone.
func stands(t *testing.T, v *view.View, waiting, steps int, dead bool) {
	t.Helper()
	if v.Waiting() != waiting || v.Steps() != steps || v.Dead() != dead {
		t.Errorf("Waiting %d, Steps %d, Dead %v, not %d, %d, %v", v.Waiting(), v.Steps(), v.Dead(), waiting, steps, dead)
	}
}

// reads asks for a sector of a view.
func reads(t *testing.T, v *view.View, at int, want string) {
	t.Helper()
	if s, e := v.Read(at); s != want || e != api.OK {
		t.Errorf("Read(%d): %q, %v, not %q", at, s, e, want)
	}
}

// all is all that a disk tells, sector by sector.
func all(t *testing.T, d *disk.Disk) []string {
	t.Helper()
	var told []string
	for at := range d.Size() {
		read, e := d.Read(at)
		lies, e2 := d.Lies(at)
		if e != api.OK || e2 != api.OK {
			t.Fatal(e, e2)
		}
		told = append(told, fmt.Sprint(read, lies, d.Waiting(at, 1)))
	}
	return told
}

// places are sectors that a view of five does not have.
func places() []int { return []int{-1, 5, 6, 8, -3, -4, 8192, math.MaxInt, math.MinInt} }

// Promise 7.1: spans of which there is a view.
func TestNew(t *testing.T) {
	for _, c := range []struct{ from, n int }{{0, 1}, {0, 10}, {9, 1}, {2, 5}, {2, 8}, {0, 9}} {
		d, v := opened(t, 10, c.from, c.n)
		if v.Size() != c.n {
			t.Errorf("Size of (%d, %d): %d", c.from, c.n, v.Size())
		}
		stands(t, v, 0, 0, false)
		if e := d.Write(c.from, fill("a")); e != api.OK {
			t.Error(e)
		}
		reads(t, v, 0, fill("a"))
	}
}

// Promise 7.1: no disk ahead of all else, and spans that may not be, or have no sector.
func TestWrongSpans(t *testing.T) {
	d, _ := opened(t, 10, 0, 10)
	for _, c := range []struct{ from, n int }{
		{0, 0}, {5, 0}, {10, 0}, {0, -1}, {5, -5}, {0, 11}, {1, 10}, {10, 1}, {11, 1}, {11, -1}, {-1, 1}, {-1, 11}, {-5, 10},
		{0, math.MaxInt}, {1, math.MaxInt}, {math.MaxInt, 1}, {math.MaxInt, math.MaxInt}, {math.MaxInt, 0},
		{math.MinInt, 1}, {math.MinInt, math.MaxInt}, {0, math.MinInt}, {math.MinInt, math.MinInt}, {math.MaxInt, math.MinInt},
	} {
		if v, e := view.New(d, c.from, c.n); v != nil || e != api.ErrRange {
			t.Errorf("New(%d, %d): %v, %v", c.from, c.n, v, e)
		}
		if v, e := view.New(nil, c.from, c.n); v != nil || e != api.ErrState {
			t.Errorf("New of no disk (%d, %d): %v, %v", c.from, c.n, v, e)
		}
	}
	if v, e := view.New(nil, 0, 1); v != nil || e != api.ErrState {
		t.Errorf("New of no disk: %v, %v", v, e)
	}
	if v, e := view.New(new(disk.Disk), 0, 1); v != nil || e != api.ErrRange {
		t.Errorf("New of a disk of no sectors: %v, %v", v, e)
	}
}

// Promises 7.1 to 7.3: of nil.
func TestNil(t *testing.T) {
	var v *view.View
	v.Fuse(0)
	v.Fuse(-1)
	if v.Size() != 0 {
		t.Errorf("Size: %d", v.Size())
	}
	stands(t, v, 0, 0, false)
	for _, at := range []int{-1, 0, 1} {
		if s, e := v.Read(at); s != "" || e != api.ErrState {
			t.Errorf("Read(%d): %q, %v", at, s, e)
		}
		if s, e := v.Lies(at); s != "" || e != api.ErrState {
			t.Errorf("Lies(%d): %q, %v", at, s, e)
		}
		wants(t, "Write", v.Write(at, fill("a")), api.ErrState)
		wants(t, "Write of few bytes", v.Write(at, "a"), api.ErrState)
	}
	wants(t, "Flush", v.Flush(), api.ErrState)
	wants(t, "Crash", v.Crash(nil), api.ErrState)
	wants(t, "Crash", v.Crash([]api.Keep{{Index: 0, Bytes: 1}}), api.ErrState)
}

// Rule R1: no call dies, not even of what New never gave.
func TestZeroValue(t *testing.T) {
	v := new(view.View)
	v.Fuse(3)
	wants(t, "Write", v.Write(0, fill("a")), api.ErrRange)
	if s, e := v.Read(0); s != "" || e != api.ErrRange {
		t.Errorf("Read: %q, %v", s, e)
	}
	if v.Flush() == api.OK || v.Crash(nil) == api.OK || v.Size() != 0 || v.Waiting() != 0 {
		t.Error("a view of no disk")
	}
}

// Promise 7.2: what is written through a view is the disk's, and what is written to the disk is the view's.
func TestWriteAndRead(t *testing.T) {
	d, v := opened(t, 10, 2, 5)
	for at := range 5 {
		letter := string(rune('a' + at))
		wants(t, "Write", v.Write(at, fill(letter)), api.OK)
		reads(t, v, at, fill(letter))
		if s, e := d.Read(2 + at); s != fill(letter) || e != api.OK {
			t.Errorf("the disk's Read(%d): %q, %v", 2+at, s, e)
		}
		if s, e := d.Lies(2 + at); s != blank || e != api.OK {
			t.Errorf("the disk's Lies(%d): %q, %v", 2+at, s, e)
		}
		stands(t, v, at+1, at+1, false)
	}
	wants(t, "the disk's Write", d.Write(3, fill("z")), api.OK)
	reads(t, v, 1, fill("z"))
	stands(t, v, 6, 5, false) // what others write is no step of the view's
	wants(t, "Write", v.Write(1, fill("y")), api.OK)
	reads(t, v, 1, fill("y"))
	stands(t, v, 7, 6, false)
}

// Promise 7.2: a place that is none is told ahead of bytes that are too few or too many; what is refused is no step, and uses up no fuse.
func TestWrongWrites(t *testing.T) {
	d, v := opened(t, 10, 3, 5)
	before := all(t, d)
	for _, fuse := range []int{-1, 1, 0} {
		v.Fuse(fuse)
		for _, at := range places() {
			wants(t, "Write of another's sector", v.Write(at, fill("a")), api.ErrRange)
			wants(t, "Write of another's sector of few bytes", v.Write(at, "a"), api.ErrRange)
			if s, e := v.Read(at); s != "" || e != api.ErrRange {
				t.Errorf("Read(%d): %q, %v", at, s, e)
			}
		}
		for _, s := range []string{"", "a", fill("a")[1:], fill("a") + "a", fill("a") + fill("a")} {
			wants(t, "Write of few bytes", v.Write(0, s), api.ErrArg)
			wants(t, "Write of few bytes", v.Write(4, s), api.ErrArg)
		}
		stands(t, v, 0, 0, false)
	}
	if !slices.Equal(all(t, d), before) {
		t.Error("the disk was changed")
	}
	wants(t, "Write with a fuse of 0", v.Write(0, fill("a")), api.ErrPower)
}

// Promise 7.2: with the power gone arguments are told first.
func TestOrderOfErrors(t *testing.T) {
	_, v := opened(t, 10, 3, 5)
	v.Fuse(0)
	wants(t, "Flush", v.Flush(), api.ErrPower)
	for _, at := range places() {
		wants(t, "Write", v.Write(at, fill("a")), api.ErrRange)
		wants(t, "Write", v.Write(at, "a"), api.ErrRange)
		if s, e := v.Read(at); s != "" || e != api.ErrRange {
			t.Errorf("Read(%d): %q, %v", at, s, e)
		}
	}
	for at := range 5 {
		wants(t, "Write", v.Write(at, "a"), api.ErrArg)
		wants(t, "Write", v.Write(at, fill("a")), api.ErrPower)
		if s, e := v.Read(at); s != "" || e != api.ErrPower {
			t.Errorf("Read(%d): %q, %v", at, s, e)
		}
	}
	stands(t, v, 0, 0, true)
}

// Promise 7.2: a flush does the writes of the span, and those alone.
func TestFlush(t *testing.T) {
	d, v := opened(t, 10, 2, 5)
	for at := range 10 {
		wants(t, "the disk's Write", d.Write(at, fill("d")), api.OK)
	}
	wants(t, "Write", v.Write(4, fill("v")), api.OK)
	stands(t, v, 6, 1, false)
	wants(t, "Flush", v.Flush(), api.OK)
	stands(t, v, 0, 2, false)
	for at, want := range []string{"", "", "d", "d", "d", "d", "v", "", "", ""} {
		lying := blank
		if want != "" {
			lying = fill(want)
		}
		if s, e := d.Lies(at); s != lying || e != api.OK {
			t.Errorf("Lies(%d): %q, %v", at, s, e)
		}
		if n := d.Waiting(at, 1); (n == 0) != (want != "") {
			t.Errorf("of the sector %d %d wait", at, n)
		}
	}
	wants(t, "Flush of nothing", v.Flush(), api.OK) // is a step too
	stands(t, v, 0, 3, false)
}

// Promises 7.3 and 7.5: with a fuse of n just n steps are done, be they writes or flushes; then the power goes as one is tried, and stays gone.
func TestFuse(t *testing.T) {
	for n := range 8 {
		for kinds := range 1 << (n + 1) { // of each step whether it is a flush
			d, v := opened(t, 4, 1, 2)
			wants(t, "Write", v.Write(1, fill("o")), api.OK) // ahead of the fuse: it does not count
			v.Fuse(n)
			step := func(i int) api.Errno {
				if kinds>>i&1 == 1 {
					return v.Flush()
				}
				return v.Write(0, fill(string(rune('a'+i))))
			}
			for i := range n {
				wants(t, "a step", step(i), api.OK)
				stands(t, v, v.Waiting(), 2+i, false)
			}
			reads(t, v, 1, fill("o")) // not dead till a step is tried
			before, waiting := all(t, d), v.Waiting()
			wants(t, "a step beyond the fuse", step(n), api.ErrPower)
			stands(t, v, waiting, 1+n, true)
			for range 3 {
				wants(t, "Write", v.Write(1, fill("z")), api.ErrPower)
				wants(t, "Flush", v.Flush(), api.ErrPower)
			}
			stands(t, v, waiting, 1+n, true)
			if !slices.Equal(all(t, d), before) {
				t.Fatalf("fuse %d, kinds %b: the disk was changed", n, kinds)
			}
		}
	}
}

// Promise 7.3: a fuse is set anew, or taken away, as long as the power is not gone.
func TestFuseSetAnew(t *testing.T) {
	_, v := opened(t, 4, 0, 4)
	v.Fuse(1)
	v.Fuse(3) // the last one counts, and they are not summed
	for range 3 {
		wants(t, "Write", v.Write(0, fill("a")), api.OK)
	}
	v.Fuse(1) // with 0 left the power is not gone yet
	wants(t, "Flush", v.Flush(), api.OK)
	v.Fuse(2)
	v.Fuse(0)
	v.Fuse(-1)
	for range 50 {
		wants(t, "Write without a fuse", v.Write(0, fill("a")), api.OK)
	}
	v.Fuse(0)
	v.Fuse(math.MinInt)
	wants(t, "Write without a fuse", v.Write(0, fill("a")), api.OK)
	v.Fuse(math.MaxInt)
	wants(t, "Write with the greatest fuse", v.Write(0, fill("a")), api.OK)
	v.Fuse(0)
	wants(t, "Write", v.Write(0, fill("a")), api.ErrPower)
	for _, n := range []int{5, 0, -1, math.MaxInt, math.MinInt} {
		v.Fuse(n) // the power is gone
		wants(t, "Write", v.Write(0, fill("a")), api.ErrPower)
		wants(t, "Flush", v.Flush(), api.ErrPower)
		if s, e := v.Read(0); s != "" || e != api.ErrPower || !v.Dead() {
			t.Errorf("Read: %q, %v", s, e)
		}
	}
}

// Promise 7.3: a crash, be the power gone or not, leaves no fuse, and no step that was done.
func TestCrashBringsThePowerBack(t *testing.T) {
	for _, fuse := range []int{-1, 0, 1, 2, 3} {
		_, v := opened(t, 4, 0, 4)
		v.Fuse(fuse)
		v.Write(0, fill("a"))
		v.Write(1, fill("b"))
		wants(t, "Crash", v.Crash(nil), api.OK)
		stands(t, v, 0, 0, false)
		reads(t, v, 0, blank)
		reads(t, v, 1, blank)
		for i := range 10 {
			wants(t, "Write behind a crash", v.Write(2, fill("c")), api.OK)
			stands(t, v, i+1, i+1, false)
		}
		v.Fuse(1)
		wants(t, "Flush", v.Flush(), api.OK)
		wants(t, "Flush", v.Flush(), api.ErrPower)
	}
	_, v := opened(t, 4, 0, 4)
	v.Fuse(0)
	v.Flush()
	v.Fuse(2) // is nothing, also behind the crash
	v.Crash(nil)
	for range 5 {
		wants(t, "Flush", v.Flush(), api.OK)
	}
}

// Promise 7.3: what the keeps say is left, counted among the span's writes alone, whether they came through the view or not.
func TestCrashKeeps(t *testing.T) {
	for i, c := range []struct {
		keeps []api.Keep
		want  [2]string // of the view's sectors 0 and 1
	}{
		{nil, [2]string{blank, blank}},
		{[]api.Keep{{Index: 0, Bytes: 64}}, [2]string{fill("a"), blank}},
		{[]api.Keep{{Index: 1, Bytes: 3}}, [2]string{blank, "bbb" + blank[3:]}},
		{[]api.Keep{{Index: 0, Bytes: 64}, {Index: 2, Bytes: 5}}, [2]string{"ccccc" + fill("a")[5:], blank}},
		{[]api.Keep{{Index: 2, Bytes: 64}, {Index: 0, Bytes: 5}}, [2]string{"aaaaa" + fill("c")[5:], blank}},
		{[]api.Keep{{Index: 3, Bytes: 64}, {Index: -1, Bytes: 64}, {Index: 1, Bytes: 99}, {Index: 0, Bytes: -9}}, [2]string{blank, fill("b")}},
	} {
		d, v := opened(t, 4, 1, 2)
		d.Write(0, fill("y"))
		d.Write(1, fill("a"))
		d.Write(3, fill("z"))
		v.Write(1, fill("b"))
		v.Write(0, fill("c"))
		keeps := slices.Clone(c.keeps)
		wants(t, "Crash", v.Crash(keeps), api.OK)
		if !slices.Equal(keeps, c.keeps) {
			t.Errorf("%d: the keeps were changed: %v", i, keeps)
		}
		for at, want := range c.want {
			reads(t, v, at, want)
			if s, e := d.Lies(1 + at); s != want || e != api.OK {
				t.Errorf("%d: Lies(%d): %q, %v", i, 1+at, s, e)
			}
		}
		stands(t, v, 0, 0, false)
		if d.Waiting(0, 4) != 2 {
			t.Errorf("%d: %d wait", i, d.Waiting(0, 4))
		}
	}
}

// Promise 7.4: each view of a disk has a power of its own, and those of other spans are not changed.
func TestViewsApart(t *testing.T) {
	d, a := opened(t, 10, 0, 4)
	b := another(t, d, 4, 6)
	wants(t, "Write", a.Write(3, fill("a")), api.OK)
	wants(t, "Write", b.Write(0, fill("b")), api.OK)
	wants(t, "Write", b.Write(5, fill("c")), api.OK)
	stands(t, a, 1, 1, false)
	stands(t, b, 2, 2, false)
	a.Fuse(0)
	wants(t, "Flush", a.Flush(), api.ErrPower)
	stands(t, a, 1, 1, true)
	wants(t, "Flush of the other one", b.Flush(), api.OK)
	stands(t, b, 0, 3, false)
	wants(t, "Write", b.Write(0, fill("d")), api.OK)
	wants(t, "Crash", a.Crash(nil), api.OK)
	stands(t, a, 0, 0, false)
	stands(t, b, 1, 4, false)
	reads(t, a, 3, blank)
	reads(t, b, 0, fill("d"))
	reads(t, b, 5, fill("c"))
}

// Promise 7.4 and the chapter's ways: the disk's call Lies, which would tell of all sectors, is hidden as the others are.
func TestLiesIsHidden(t *testing.T) {
	d, v := opened(t, 10, 3, 5)
	for at := range 10 {
		wants(t, "the disk's Write", d.Write(at, fill(string(rune('a'+at)))), api.OK)
	}
	wants(t, "the disk's Flush", d.Flush(0, 10), api.OK)
	wants(t, "Write", v.Write(4, fill("z")), api.OK)
	for at := range 5 {
		if s, e := v.Lies(at); s != fill(string(rune('d'+at))) || e != api.OK {
			t.Errorf("Lies(%d): %q, %v", at, s, e)
		}
	}
	v.Fuse(0)
	for range 2 {
		for _, at := range places() {
			if s, e := v.Lies(at); s != "" || e != api.ErrRange {
				t.Errorf("Lies(%d): %q, %v", at, s, e)
			}
		}
		v.Flush()
	}
	if s, e := v.Lies(0); s != "" || e != api.ErrPower {
		t.Errorf("Lies without power: %q, %v", s, e)
	}
}

// The example of the chapter.
func TestExample(t *testing.T) {
	d, v := opened(t, 12, 8, 4)
	wants(t, "Write", v.Write(0, fill("x")), api.OK)
	if s, e := d.Read(8); s != fill("x") || e != api.OK || d.Waiting(8, 1) != 1 || d.Waiting(0, 12) != 1 {
		t.Errorf("Read(8): %q, %v", s, e)
	}
	v.Fuse(1)
	wants(t, "Write", v.Write(0, fill("y")), api.OK)
	wants(t, "Flush", v.Flush(), api.ErrPower)
}

// model is a view by the words of the chapter, over a small disk of its own that has the span's sectors alone.
type model struct {
	d     *disk.Disk
	n     int
	done  []string // the steps that were done, by name
	limit int      // so many may be done; below 0: any
	gone  bool
}

// try tells whether a step is done.
func (m *model) try(name string) bool {
	if m.limit >= 0 && len(m.done) >= m.limit {
		m.gone = true
	}
	if !m.gone {
		m.done = append(m.done, name)
	}
	return !m.gone
}

func (m *model) write(at int, s string) api.Errno {
	if at < 0 || at >= m.n {
		return api.ErrRange
	}
	if len(s) != 64 {
		return api.ErrArg
	}
	if !m.try("write") {
		return api.ErrPower
	}
	return m.d.Write(at, s)
}

func (m *model) flush() api.Errno {
	if !m.try("flush") {
		return api.ErrPower
	}
	return m.d.Flush(0, m.n)
}

func (m *model) read(at int) (string, api.Errno) {
	if at < 0 || at >= m.n {
		return "", api.ErrRange
	}
	if m.gone {
		return "", api.ErrPower
	}
	return m.d.Read(at)
}

func (m *model) fuse(n int) {
	if m.gone {
		return
	}
	m.limit = -1
	if n >= 0 {
		m.limit = len(m.done) + n
	}
}

func (m *model) crash(keeps []api.Keep) api.Errno {
	m.done, m.limit, m.gone = nil, -1, false
	return m.d.Crash(0, m.n, keeps)
}

// Promises 7.2 to 7.5: whatever is done with views of neighbouring spans, in whatever order, each is as its model, and sectors of no view stay as they were.
func TestAgainstTheModel(t *testing.T) {
	for seed := range 60 {
		r := rand.New(rand.NewSource(int64(seed)))
		sizes := [2]int{1 + r.Intn(4), 1 + r.Intn(4)}
		d, first := opened(t, sizes[0]+sizes[1]+2, 1, sizes[0])
		views := [2]*view.View{first, another(t, d, 1+sizes[0], sizes[1])}
		var models [2]*model
		for i, n := range sizes {
			own, _ := disk.New(n)
			models[i] = &model{d: own, n: n, limit: -1}
		}
		d.Write(0, fill("["))
		d.Write(d.Size()-1, fill("]"))
		before := all(t, d)
		for step := range 300 {
			i := r.Intn(2)
			doBoth(t, r, views[i], models[i], fmt.Sprintf("seed %d, step %d", seed, step))
			for i, v := range views {
				stands(t, v, models[i].d.Waiting(0, sizes[i]), len(models[i].done), models[i].gone)
			}
		}
		now := all(t, d)
		if now[0] != before[0] || now[len(now)-1] != before[len(now)-1] {
			t.Fatalf("seed %d: a sector beyond the views was changed", seed)
		}
		for i, m := range models {
			from := 1 + i*sizes[0]
			if own := all(t, m.d); !slices.Equal(now[from:from+m.n], own) {
				t.Fatalf("seed %d: view %d: %q, not %q", seed, i, now[from:from+m.n], own)
			}
		}
	}
}

// doBoth does something with a view, and with its model.
func doBoth(t *testing.T, r *rand.Rand, v *view.View, m *model, what string) {
	t.Helper()
	at, s := r.Intn(m.n+2)-1, fill(string(rune('a'+r.Intn(26))))
	if r.Intn(10) == 0 {
		s = s[r.Intn(65):]
	}
	switch r.Intn(12) {
	case 0:
		n := r.Intn(6) - 1
		v.Fuse(n)
		m.fuse(n)
	case 1:
		var keeps []api.Keep
		for range r.Intn(4) {
			keeps = append(keeps, api.Keep{Index: r.Intn(5) - 1, Bytes: r.Intn(80) - 8})
		}
		wants(t, what, v.Crash(keeps), m.crash(keeps))
	case 2, 3:
		wants(t, what, v.Flush(), m.flush())
	case 4, 5, 6:
		got, e := v.Read(at)
		want, e2 := m.read(at)
		if got != want || e != e2 {
			t.Fatalf("%s: Read(%d): %q, %v, not %q, %v", what, at, got, e, want, e2)
		}
	default:
		wants(t, what, v.Write(at, s), m.write(at, s))
	}
}
