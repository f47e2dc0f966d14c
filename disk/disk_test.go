package disk_test

import (
	"fmt"
	"math"
	"math/rand"
	"slices"
	"strings"
	"testing"

	"weighlock/api"
	"weighlock/disk"
)

// fill is a sector of one letter.
func fill(letter string) string { return strings.Repeat(letter, api.Sector) }

// blank is a sector of a new disk.
var blank = fill("\x00")

// made is a disk of so many sectors.
func made(t *testing.T, sectors int) *disk.Disk {
	t.Helper()
	d, e := disk.New(sectors)
	if d == nil || e != api.OK {
		t.Fatalf("New(%d): %v, %v", sectors, d, e)
	}
	return d
}

// put writes what must be taken.
func put(t *testing.T, d *disk.Disk, at int, s string) {
	t.Helper()
	if e := d.Write(at, s); e != api.OK {
		t.Fatalf("Write(%d): %v", at, e)
	}
}

// holds asks for what is read of a sector, and for what lies there.
func holds(t *testing.T, d *disk.Disk, at int, read, lies string) {
	t.Helper()
	if s, e := d.Read(at); s != read || e != api.OK {
		t.Errorf("Read(%d): %q, %v, not %q", at, s, e, read)
	}
	if s, e := d.Lies(at); s != lies || e != api.OK {
		t.Errorf("Lies(%d): %q, %v, not %q", at, s, e, lies)
	}
}

// Promise 3.1.
func TestNew(t *testing.T) {
	if disk.MaxSectors != 8192 {
		t.Errorf("MaxSectors: %d", disk.MaxSectors)
	}
	for _, n := range []int{0, -1, math.MinInt, 8193, math.MaxInt} {
		if d, e := disk.New(n); d != nil || e != api.ErrArg {
			t.Errorf("New(%d): %v, %v", n, d, e)
		}
	}
	for _, n := range []int{1, 2, 98, 8191, 8192} {
		d := made(t, n)
		if d.Size() != n {
			t.Errorf("Size of %d: %d", n, d.Size())
		}
		for _, at := range []int{0, n / 2, n - 1} {
			holds(t, d, at, blank, blank)
		}
		if d.Waiting(0, n) != 0 {
			t.Errorf("Waiting of a new disk: %d", d.Waiting(0, n))
		}
	}
}

// Promises 3.1 to 3.3: of nil.
func TestNil(t *testing.T) {
	var d *disk.Disk
	if d.Size() != 0 || d.Waiting(0, 0) != 0 || d.Waiting(-1, 5) != 0 {
		t.Errorf("%d, %d", d.Size(), d.Waiting(0, 0))
	}
	for _, at := range []int{-1, 0, 1} {
		if e := d.Write(at, fill("a")); e != api.ErrState {
			t.Errorf("Write(%d): %v", at, e)
		}
		if e := d.Write(at, "short"); e != api.ErrState {
			t.Errorf("Write(%d) of few bytes: %v", at, e)
		}
		if s, e := d.Read(at); s != "" || e != api.ErrState {
			t.Errorf("Read(%d): %q, %v", at, s, e)
		}
		if s, e := d.Lies(at); s != "" || e != api.ErrState {
			t.Errorf("Lies(%d): %q, %v", at, s, e)
		}
		if e := d.Flush(at, 0); e != api.ErrState {
			t.Errorf("Flush(%d, 0): %v", at, e)
		}
		if e := d.Crash(at, 0, []api.Keep{{Index: 0, Bytes: 1}}); e != api.ErrState {
			t.Errorf("Crash(%d, 0): %v", at, e)
		}
	}
}

// Promise 3.2: a write waits, is read, and does not lie there yet; the last one of a sector is read.
func TestWriteWaits(t *testing.T) {
	d := made(t, 3)
	put(t, d, 1, fill("a"))
	holds(t, d, 1, fill("a"), blank)
	put(t, d, 1, fill("b"))
	holds(t, d, 1, fill("b"), blank)
	put(t, d, 2, fill("c"))
	holds(t, d, 1, fill("b"), blank)
	holds(t, d, 2, fill("c"), blank)
	holds(t, d, 0, blank, blank)
	if d.Waiting(0, 3) != 3 {
		t.Errorf("Waiting: %d", d.Waiting(0, 3))
	}
	put(t, d, 1, fill("a"))
	holds(t, d, 1, fill("a"), blank)
	if d.Waiting(1, 1) != 3 {
		t.Errorf("Waiting: %d", d.Waiting(1, 1))
	}
}

// Promise 3.2: all bytes of a sector are kept, each at its place.
func TestEveryByte(t *testing.T) {
	b := make([]byte, api.Sector)
	for i := range b {
		b[i] = byte(255 - 3*i)
	}
	d := made(t, 2)
	put(t, d, 1, string(b))
	holds(t, d, 1, string(b), blank)
	if e := d.Flush(1, 1); e != api.OK {
		t.Error(e)
	}
	holds(t, d, 1, string(b), string(b))
}

// Promise 3.2: a place that is none is told ahead of bytes that are too few or too many; a write that is refused does not wait.
func TestWrongWrites(t *testing.T) {
	d := made(t, 4)
	put(t, d, 3, fill("z"))
	for _, c := range []struct {
		at   int
		s    string
		want api.Errno
	}{
		{-1, fill("a"), api.ErrRange},
		{4, fill("a"), api.ErrRange},
		{math.MaxInt, fill("a"), api.ErrRange},
		{math.MinInt, fill("a"), api.ErrRange},
		{-1, "", api.ErrRange},
		{4, fill("a") + "a", api.ErrRange},
		{0, "", api.ErrArg},
		{3, fill("a")[1:], api.ErrArg},
		{3, fill("a") + "a", api.ErrArg},
		{1, fill("a") + fill("b"), api.ErrArg},
	} {
		if e := d.Write(c.at, c.s); e != c.want {
			t.Errorf("Write(%d, %d bytes): %v, not %v", c.at, len(c.s), e, c.want)
		}
	}
	if d.Waiting(0, 4) != 1 {
		t.Errorf("Waiting: %d", d.Waiting(0, 4))
	}
	holds(t, d, 0, blank, blank)
	holds(t, d, 3, fill("z"), blank)
}

// Promise 3.2: a place that is none is not read.
func TestWrongPlaces(t *testing.T) {
	d := made(t, 4)
	for _, at := range []int{-1, 4, 5, 8192, math.MaxInt, math.MinInt} {
		if s, e := d.Read(at); s != "" || e != api.ErrRange {
			t.Errorf("Read(%d): %q, %v", at, s, e)
		}
		if s, e := d.Lies(at); s != "" || e != api.ErrRange {
			t.Errorf("Lies(%d): %q, %v", at, s, e)
		}
	}
}

// Promise 3.3: spans that may be, also empty ones, up to the end and no farther.
func TestSpans(t *testing.T) {
	for _, c := range []struct {
		from, n int
		want    api.Errno
	}{
		{0, 0, api.OK}, {0, 4, api.OK}, {1, 3, api.OK}, {3, 1, api.OK}, {4, 0, api.OK}, {2, 0, api.OK},
		{-1, 0, api.ErrRange}, {-1, 1, api.ErrRange}, {-1, 4, api.ErrRange}, {-4, 8, api.ErrRange},
		{0, 5, api.ErrRange}, {1, 4, api.ErrRange}, {4, 1, api.ErrRange}, {5, 0, api.ErrRange}, {5, -1, api.ErrRange},
		{0, -1, api.ErrRange}, {2, -2, api.ErrRange}, {0, math.MinInt, api.ErrRange},
		{0, math.MaxInt, api.ErrRange}, {2, math.MaxInt, api.ErrRange}, {4, math.MaxInt - 3, api.ErrRange},
		{math.MaxInt, 0, api.ErrRange}, {math.MaxInt, 1, api.ErrRange}, {math.MaxInt, math.MaxInt, api.ErrRange},
		{math.MinInt, 0, api.ErrRange}, {math.MinInt, math.MaxInt, api.ErrRange},
	} {
		d := made(t, 4)
		for at := range 4 {
			put(t, d, at, fill("a"))
		}
		waiting := d.Waiting(c.from, c.n)
		if c.want == api.OK && waiting != c.n || c.want != api.OK && waiting != 0 {
			t.Errorf("Waiting(%d, %d): %d", c.from, c.n, waiting)
		}
		if e := d.Flush(c.from, c.n); e != c.want {
			t.Errorf("Flush(%d, %d): %v", c.from, c.n, e)
		}
		if e := d.Crash(c.from, c.n, []api.Keep{{Index: 0, Bytes: 64}}); e != c.want {
			t.Errorf("Crash(%d, %d): %v", c.from, c.n, e)
		}
		if left := d.Waiting(0, 4); left != 4-waiting {
			t.Errorf("behind (%d, %d): %d wait", c.from, c.n, left)
		}
	}
}

// Promise 3.3: a flush does all writes of the span, the last one of a sector last, and lets the others wait.
func TestFlush(t *testing.T) {
	d := made(t, 5)
	for i, at := range []int{1, 3, 1, 2, 0, 4, 2} {
		put(t, d, at, fill(string(rune('a'+i))))
	}
	if d.Waiting(1, 2) != 4 || d.Waiting(0, 5) != 7 || d.Waiting(3, 1) != 1 || d.Waiting(2, 0) != 0 {
		t.Errorf("Waiting: %d of 7", d.Waiting(0, 5))
	}
	if e := d.Flush(1, 2); e != api.OK {
		t.Error(e)
	}
	holds(t, d, 1, fill("c"), fill("c"))
	holds(t, d, 2, fill("g"), fill("g"))
	holds(t, d, 0, fill("e"), blank)
	holds(t, d, 3, fill("b"), blank)
	holds(t, d, 4, fill("f"), blank)
	if d.Waiting(1, 2) != 0 || d.Waiting(0, 5) != 3 {
		t.Errorf("Waiting: %d", d.Waiting(0, 5))
	}
	put(t, d, 1, fill("x"))
	holds(t, d, 1, fill("x"), fill("c"))
	if e := d.Flush(0, 5); e != api.OK {
		t.Error(e)
	}
	for at, letter := range []string{"e", "x", "g", "b", "f"} {
		holds(t, d, at, fill(letter), fill(letter))
	}
}

// Promise 3.3: what is left of one write, by how many bytes of it stay.
func TestCrashTears(t *testing.T) {
	for _, c := range []struct{ bytes, kept int }{
		{math.MinInt, 0}, {-1, 0}, {0, 0}, {1, 1}, {3, 3}, {63, 63}, {64, 64}, {65, 64}, {math.MaxInt, 64},
	} {
		d := made(t, 2)
		put(t, d, 1, fill("o"))
		if e := d.Flush(0, 2); e != api.OK {
			t.Error(e)
		}
		put(t, d, 1, fill("n"))
		if e := d.Crash(0, 2, []api.Keep{{Index: 0, Bytes: c.bytes}}); e != api.OK {
			t.Error(e)
		}
		want := fill("n")[:c.kept] + fill("o")[c.kept:]
		holds(t, d, 1, want, want)
		if d.Waiting(0, 2) != 0 {
			t.Errorf("Waiting behind a crash: %d", d.Waiting(0, 2))
		}
	}
}

// Promise 3.3: keeps go in their own order, count the span's writes alone, and may name one twice, or none.
func TestCrashKeeps(t *testing.T) {
	cut := func(a string, n int, b string) string { return fill(a)[:n] + fill(b)[n:] }
	for i, c := range []struct {
		keeps []api.Keep
		want  [2]string // of the sectors 1 and 2
	}{
		{nil, [2]string{blank, blank}},
		{[]api.Keep{{Index: 0, Bytes: 64}}, [2]string{fill("a"), blank}},
		{[]api.Keep{{Index: 1, Bytes: 64}}, [2]string{blank, fill("b")}},
		{[]api.Keep{{Index: 2, Bytes: 64}}, [2]string{fill("c"), blank}},
		{[]api.Keep{{Index: 0, Bytes: 64}, {Index: 2, Bytes: 5}}, [2]string{cut("c", 5, "a"), blank}},
		{[]api.Keep{{Index: 2, Bytes: 64}, {Index: 0, Bytes: 5}}, [2]string{cut("a", 5, "c"), blank}},
		{[]api.Keep{{Index: 2, Bytes: 5}, {Index: 0, Bytes: 64}}, [2]string{fill("a"), blank}},
		{[]api.Keep{{Index: 2, Bytes: 9}, {Index: 0, Bytes: 4}, {Index: 1, Bytes: 1}}, [2]string{"aaaaccccc" + blank[9:], cut("b", 1, "\x00")}},
		{[]api.Keep{{Index: 0, Bytes: 9}, {Index: 2, Bytes: 7}, {Index: 0, Bytes: 2}}, [2]string{"aacccccaa" + blank[9:], blank}},
		{[]api.Keep{{Index: 1, Bytes: 3}, {Index: 1, Bytes: 0}, {Index: 1, Bytes: -7}}, [2]string{blank, cut("b", 3, "\x00")}},
		{[]api.Keep{{Index: -1, Bytes: 64}, {Index: 3, Bytes: 64}, {Index: 99, Bytes: 64}, {Index: math.MinInt, Bytes: 64}, {Index: math.MaxInt, Bytes: 64}}, [2]string{blank, blank}},
		{[]api.Keep{{Index: 3, Bytes: 64}, {Index: 1, Bytes: 99}}, [2]string{blank, fill("b")}},
	} {
		d := made(t, 4)
		put(t, d, 0, fill("y")) // not of the span: not counted
		put(t, d, 1, fill("a"))
		put(t, d, 3, fill("z"))
		put(t, d, 2, fill("b"))
		put(t, d, 1, fill("c"))
		if e := d.Crash(1, 2, c.keeps); e != api.OK {
			t.Errorf("%d: %v", i, e)
		}
		holds(t, d, 1, c.want[0], c.want[0])
		holds(t, d, 2, c.want[1], c.want[1])
		holds(t, d, 0, fill("y"), blank)
		holds(t, d, 3, fill("z"), blank)
		if d.Waiting(1, 2) != 0 || d.Waiting(0, 4) != 2 {
			t.Errorf("%d: %d wait", i, d.Waiting(0, 4))
		}
	}
}

// The example of the chapter.
func TestExample(t *testing.T) {
	d := made(t, 2)
	put(t, d, 1, fill("x"))
	holds(t, d, 1, fill("x"), blank)
	if e := d.Crash(0, 2, []api.Keep{{Index: 0, Bytes: 3}}); e != api.OK {
		t.Error(e)
	}
	holds(t, d, 1, "xxx"+blank[3:], "xxx"+blank[3:])
}

// Rule R3: keeps are not changed.
func TestKeepsAreNotChanged(t *testing.T) {
	d := made(t, 1)
	put(t, d, 0, fill("a"))
	keeps := []api.Keep{{Index: 0, Bytes: 99}, {Index: -1, Bytes: -1}, {Index: 7, Bytes: 3}}
	before := slices.Clone(keeps)
	if e := d.Crash(0, 1, keeps); e != api.OK || !slices.Equal(keeps, before) {
		t.Errorf("%v, %v", e, keeps)
	}
}

// Promise 3.2: each disk is one of its own.
func TestDisksApart(t *testing.T) {
	a, b := made(t, 2), made(t, 2)
	put(t, a, 0, fill("a"))
	if e := a.Flush(0, 2); e != api.OK {
		t.Error(e)
	}
	put(t, a, 1, fill("b"))
	holds(t, b, 0, blank, blank)
	holds(t, b, 1, blank, blank)
	if b.Waiting(0, 2) != 0 {
		t.Errorf("Waiting: %d", b.Waiting(0, 2))
	}
}

// model is a disk by the words of the chapter: of each sector what lies there, and all writes with their numbers.
type model struct {
	lies   []string
	writes []string // of each write that came its bytes; "" is one that waits no more
	places []int
}

func (m *model) write(at int, s string) {
	m.writes, m.places = append(m.writes, s), append(m.places, at)
}

// of are the numbers of the writes of a span that wait.
func (m *model) of(from, n int) []int {
	var found []int
	for i, at := range m.places {
		if m.writes[i] != "" && at >= from && at < from+n {
			found = append(found, i)
		}
	}
	return found
}

func (m *model) flush(from, n int) {
	for _, i := range m.of(from, n) {
		m.lies[m.places[i]], m.writes[i] = m.writes[i], ""
	}
}

func (m *model) crash(from, n int, keeps []api.Keep) {
	lost := m.of(from, n)
	for _, k := range keeps {
		for j, i := range lost {
			if j == k.Index {
				b := min(max(k.Bytes, 0), api.Sector)
				at := m.places[i]
				m.lies[at] = m.writes[i][:b] + m.lies[at][b:]
			}
		}
	}
	for _, i := range lost {
		m.writes[i] = ""
	}
}

func (m *model) read(at int) string {
	s := m.lies[at]
	for _, i := range m.of(at, 1) {
		s = m.writes[i]
	}
	return s
}

// same holds all of a disk against the model.
func same(t *testing.T, d *disk.Disk, m *model, what string) {
	t.Helper()
	for at := range m.lies {
		if s, e := d.Read(at); s != m.read(at) || e != api.OK {
			t.Fatalf("%s: Read(%d): %q, %v, not %q", what, at, s, e, m.read(at))
		}
		if s, e := d.Lies(at); s != m.lies[at] || e != api.OK {
			t.Fatalf("%s: Lies(%d): %q, %v, not %q", what, at, s, e, m.lies[at])
		}
		for n := range len(m.lies) - at + 1 {
			if d.Waiting(at, n) != len(m.of(at, n)) {
				t.Fatalf("%s: Waiting(%d, %d): %d", what, at, n, d.Waiting(at, n))
			}
		}
	}
}

// Promises 3.2 to 3.4: whatever is done, in whatever order, the disk is as the model, within the span and beyond it.
func TestAgainstTheModel(t *testing.T) {
	for seed := range 60 {
		r := rand.New(rand.NewSource(int64(seed)))
		size := 1 + r.Intn(6)
		d := made(t, size)
		m := &model{lies: slices.Repeat([]string{blank}, size)}
		for step := range 80 {
			from := r.Intn(size + 1)
			n := r.Intn(size - from + 1)
			what := fmt.Sprintf("seed %d, step %d", seed, step)
			switch r.Intn(8) {
			case 0:
				if e := d.Flush(from, n); e != api.OK {
					t.Fatal(what, e)
				}
				m.flush(from, n)
			case 1:
				keeps := someKeeps(r)
				if e := d.Crash(from, n, keeps); e != api.OK {
					t.Fatal(what, e)
				}
				m.crash(from, n, keeps)
			default:
				at, s := r.Intn(size), bytesOf(r)
				put(t, d, at, s)
				m.write(at, s)
			}
			same(t, d, m, what)
		}
	}
}

// someKeeps are a few keeps, some of which name none.
func someKeeps(r *rand.Rand) []api.Keep {
	var keeps []api.Keep
	for range r.Intn(6) {
		keeps = append(keeps, api.Keep{Index: r.Intn(8) - 1, Bytes: r.Intn(70) - 3})
	}
	return keeps
}

// bytesOf is a sector of any bytes.
func bytesOf(r *rand.Rand) string {
	b := make([]byte, api.Sector)
	r.Read(b)
	return string(b)
}

// written is a disk of 8 sectors with writes that lie there and writes that wait, and what is read of each sector.
func written(t *testing.T, r *rand.Rand) (*disk.Disk, []string) {
	t.Helper()
	d := made(t, 8)
	for range 12 {
		put(t, d, r.Intn(8), bytesOf(r))
	}
	if e := d.Flush(0, 8); e != api.OK {
		t.Fatal(e)
	}
	for range 12 {
		put(t, d, r.Intn(8), bytesOf(r))
	}
	read := make([]string, 8)
	for at := range read {
		read[at], _ = d.Read(at)
	}
	return d, read
}

// Promise 3.4: beyond the span nothing is changed.
func TestBeyondTheSpan(t *testing.T) {
	r := rand.New(rand.NewSource(4))
	for range 40 {
		d, read := written(t, r)
		from := r.Intn(8)
		n := r.Intn(8 - from + 1)
		lies := make([]string, 8)
		waiting := make([]int, 8)
		for at := range lies {
			lies[at], _ = d.Lies(at)
			waiting[at] = d.Waiting(at, 1)
		}
		if r.Intn(2) == 0 {
			d.Flush(from, n)
		} else {
			d.Crash(from, n, someKeeps(r))
		}
		for at := range lies {
			if at >= from && at < from+n {
				continue
			}
			holds(t, d, at, read[at], lies[at])
			if d.Waiting(at, 1) != waiting[at] {
				t.Errorf("Waiting(%d, 1): %d, not %d", at, d.Waiting(at, 1), waiting[at])
			}
		}
	}
}

// Promise 3.5: behind a flush, and behind a crash, what is read is what lies there; a flush leaves what was read.
func TestReadIsWhatLies(t *testing.T) {
	r := rand.New(rand.NewSource(5))
	for range 40 {
		d, read := written(t, r)
		d.Flush(0, 8)
		for at := range read {
			holds(t, d, at, read[at], read[at])
		}
		d, _ = written(t, r)
		d.Crash(0, 8, someKeeps(r))
		for at := range 8 {
			lies, _ := d.Lies(at)
			holds(t, d, at, lies, lies)
		}
	}
}

// Promise 3.6.
func TestCrashThatKeepsAll(t *testing.T) {
	r := rand.New(rand.NewSource(6))
	for range 40 {
		d, read := written(t, r)
		var keeps []api.Keep
		for i := range d.Waiting(0, 8) {
			keeps = append(keeps, api.Keep{Index: i, Bytes: api.Sector + r.Intn(2)})
		}
		if e := d.Crash(0, 8, keeps); e != api.OK {
			t.Fatal(e)
		}
		for at := range read {
			holds(t, d, at, read[at], read[at])
		}
	}
}

// Rule R6: what is asked changes nothing.
func TestAskingChangesNothing(t *testing.T) {
	d, read := written(t, rand.New(rand.NewSource(7)))
	for range 3 {
		if d.Size() != 8 || d.Waiting(0, 8) != 12 || d.Waiting(0, 9) != 0 {
			t.Errorf("%d, %d", d.Size(), d.Waiting(0, 8))
		}
		for at := range read {
			if s, e := d.Read(at); s != read[at] || e != api.OK {
				t.Errorf("Read(%d): %q, %v", at, s, e)
			}
			d.Lies(at)
		}
	}
}
