package store_test

import (
	"cmp"
	"fmt"
	"math/rand"
	"reflect"
	"slices"
	"strings"
	"testing"

	"weighlock/api"
	"weighlock/disk"
	"weighlock/offsets"
	"weighlock/release"
	"weighlock/scan"
	"weighlock/store"
	"weighlock/super"
	"weighlock/view"
)

// wants asks for an answer.
func wants(t *testing.T, what string, e, want api.Errno) {
	t.Helper()
	if e != want {
		t.Fatalf("%s: %v, not %v", what, e, want)
	}
}

// blank is a view of so many segments, between others of the disk.
func blank(t *testing.T, segs int) *view.View {
	t.Helper()
	d, e := disk.New(9 + 2 + 16*segs)
	wants(t, "disk.New", e, api.OK)
	v, e := view.New(d, 5, 2+16*segs)
	wants(t, "view.New", e, api.OK)
	return v
}

// both is a store, and its model.
type both struct {
	*testing.T
	v *view.View
	s *store.Store
	m *model

	hasty bool // it asks for less
}

// opened is a store on so many segments, that was formatted and opened.
func opened(t *testing.T, segs int) *both {
	t.Helper()
	b := &both{T: t, v: blank(t, segs), m: formatted(segs)}
	wants(t, "Format", store.Format(b.v, segs), api.OK)
	b.open(0)
	return b
}

// open opens it anew.
func (b *both) open(tick int) {
	b.Helper()
	s, e := store.Open(b.v, b.m.segs, tick)
	b.m.open(tick)
	if b.v.Dead() {
		wants(b.T, "Open", e, api.ErrPower)
		return
	}
	wants(b.T, "Open", e, api.OK)
	b.s = s
	b.same()
	if b.v.Waiting() != 0 {
		b.Fatalf("Open: %d wait", b.v.Waiting())
	}
}

// crash lets all go that is not sure, and opens it anew.
func (b *both) crash(tick int) {
	b.Helper()
	wants(b.T, "Crash", b.v.Crash(nil), api.OK)
	b.m.crash()
	b.open(tick)
}

// lies is what lies there of a log's segment.
type lies struct {
	log, gen, base int
	frames         []api.Frame
}

func compareLies(a, b lies) int {
	return cmp.Or(cmp.Compare(a.log, b.log), cmp.Compare(a.gen, b.gen), cmp.Compare(a.base, b.base))
}

// segments are all segments that can be loaded.
func segments(t *testing.T, v *view.View, segs int) []lies {
	t.Helper()
	l, e := scan.All(v, segs)
	wants(t, "All", e, api.OK)
	var all []lies
	for _, s := range l {
		h := s.Header()
		all = append(all, lies{h.Log, int(h.Gen), h.Base, s.Frames()})
	}
	slices.SortFunc(all, compareLies)
	return all
}

// segments are all that the model has.
func (m *model) segments() []lies {
	var all []lies
	for _, g := range m.disk.logs {
		for _, x := range g.pieces {
			all = append(all, lies{g.id, g.gen, x.base, x.frames})
		}
	}
	slices.SortFunc(all, compareLies)
	return all
}

// holds asks two things to be the same.
func (b *both) holds(what string, got, want any) {
	b.Helper()
	if g, w := fmt.Sprintf("%v", got), fmt.Sprintf("%v", want); g != w {
		b.Fatalf("%s: %s, not %s", what, g, w)
	}
}

// same asks the store for all that it tells, and the disk for what lies there.
func (b *both) same() {
	b.Helper()
	m, s := b.m, b.s
	b.holds("Steps", b.v.Steps(), m.steps)
	if b.hasty {
		return
	}
	b.holds("Names", s.Names(), m.catalog.Names())
	for _, name := range []string{"a", "b", "c", "d", ""} {
		spec, e := s.Spec(name)
		want, wrong := m.catalog.Spec(name)
		b.holds("Spec "+name, []any{spec, e}, []any{want, wrong})
		for part := -1; part < 5; part++ {
			b.samePart(api.Place{Topic: name, Part: part})
		}
	}
	b.holds("Keys", s.Keys(), m.offsets.Keys())
	for _, k := range m.offsets.Keys() {
		at, e := s.Offset(k)
		want, wrong := m.offset(k)
		b.holds("Offset", []any{at, e}, []any{want, wrong})
	}
	b.holds("Pending", s.Pending(), m.releases.Pending())
	b.holds("Released", s.Released(), m.releases.Last())
	b.holds("Free", s.Free(), m.free())
	x, e := super.Load(b.v)
	b.holds("super", []any{x.Seq, x.Epoch, x.Gens, e}, []any{m.disk.seq, m.disk.epoch, m.disk.gens, api.OK})
	if got, want := segments(b.T, b.v, m.segs), m.segments(); !reflect.DeepEqual(got, want) {
		b.Fatalf("%v lie there, not %v", got, want)
	}
}

// samePart asks for what a partition has.
func (b *both) samePart(p api.Place) {
	b.Helper()
	start, mark, e := b.s.Bounds(p)
	x, want := b.m.parts[p], api.OK
	if x == nil {
		x, want = &held{}, api.ErrNone
	}
	b.holds("Bounds", []any{start, mark, e}, []any{x.start, x.mark, want})
	if l := b.s.Records(p); !slices.Equal(l, x.records) {
		b.Fatalf("Records(%v): %v, not %v", p, l, x.records)
	}
	for _, from := range []int{x.start - 1, x.start, x.start + 1, (x.start + x.mark) / 2, x.mark, x.mark + 1} {
		for _, most := range []int{-1, 0, 1, 3, 16, 17} {
			l, on, e := b.s.Fetch(p, from, most)
			wantL, wantOn, want := b.m.fetch(p, from, most)
			if !slices.Equal(l, wantL) || on != wantOn || e != want {
				b.Fatalf("Fetch(%v, %d, %d): %v, %d, %v, not %v, %d, %v", p, from, most, l, on, e, wantL, wantOn, want)
			}
		}
	}
}

// told compares an answer with the model's, and all else, as long as there is power.
func (b *both) told(what string, got, want []any) {
	b.Helper()
	if b.v.Dead() {
		for _, x := range got[:len(got)-1] {
			b.holds(what, x, reflect.Zero(reflect.TypeOf(x)))
		}
		b.holds(what, got[len(got)-1], api.ErrPower)
		return
	}
	b.holds(what, got, want)
	b.same()
}

func (b *both) create(spec api.Spec) api.Errno {
	b.Helper()
	want := b.m.create(spec)
	b.told("Create", []any{b.s.Create(spec)}, []any{want})
	return want
}

func (b *both) delete(name string) api.Errno {
	b.Helper()
	want := b.m.delete(name)
	b.told("Delete", []any{b.s.Delete(name)}, []any{want})
	return want
}

func (b *both) append(p api.Place, head api.Record, l ...api.Pair) api.Errno {
	b.Helper()
	wantAt, wantLast, want := b.m.produce(p, head, l)
	at, last, e := b.s.Append(p, head, l)
	b.told("Append", []any{at, last, e}, []any{wantAt, wantLast, want})
	return want
}

func (b *both) commit(k offsets.Key, offset int) api.Errno {
	b.Helper()
	want := b.m.commit(k, offset)
	b.told("Commit", []any{b.s.Commit(k, offset)}, []any{want})
	return want
}

func (b *both) release(r release.Release, tick int) api.Errno {
	b.Helper()
	wantAt, want := b.m.release(r, tick)
	at, e := b.s.Release(r, tick)
	b.told("Release", []any{at, e}, []any{wantAt, want})
	return want
}

func (b *both) task(tick int) {
	b.Helper()
	b.m.task(tick)
	b.told("Task", []any{b.s.Task(tick)}, []any{api.OK})
}

func (b *both) flush() {
	b.Helper()
	b.m.mark()
	b.told("Flush", []any{b.s.Flush()}, []any{api.OK})
}

// chooser chooses what is done.
type chooser struct {
	*rand.Rand
	*both
	tick int
	mix  []int                   // of how many in all each thing is done
	made map[int]release.Release // by the numbers that they had last
}

// mixes are how often each thing is done.
func mixes() [][]int {
	return [][]int{
		// Create, Delete, Append, Commit, Release, Task, Flush, Open, Crash
		{6, 3, 41, 13, 12, 17, 5, 1, 2},
		{3, 1, 60, 3, 3, 30, 3, 0, 0},
		{10, 8, 20, 20, 20, 30, 5, 6, 0},
		{5, 1, 30, 10, 30, 15, 5, 2, 10},
		{3, 1, 80, 3, 5, 10, 1, 1, 1},
	}
}

func (c *chooser) name() string { return string([]byte{byte('a' + c.Intn(3))}) }

// place is a place, mostly one that is there.
func (c *chooser) place() api.Place {
	l := c.m.places()
	if len(l) == 0 || c.Intn(12) == 0 {
		return api.Place{Topic: c.name(), Part: c.Intn(5) - 1}
	}
	return l[c.Intn(len(l))]
}

func (c *chooser) spec() api.Spec {
	one := func(n ...int) int { return n[c.Intn(len(n))] }
	return api.Spec{Name: c.name(), Parts: one(1, 1, 2, 2, 3), Age: one(0, 0, 4, 12), Size: one(0, 0, 60, 300, 1200), Compact: c.Intn(2) == 0}
}

// pair is a pair, mostly a short one.
func (c *chooser) pair() api.Pair {
	size := []int{0, 1, 5, 20, 60, 200}[c.Intn(6)]
	p := api.Pair{Key: []string{"", "k", "l", "m"}[c.Intn(4)], Value: strings.Repeat("v", size)}
	if p.Key != "" && c.Intn(4) == 0 {
		p.Gone, p.Value = true, ""
	}
	return p
}

// batch is a batch, mostly one that may be.
func (c *chooser) batch() []api.Pair {
	var l []api.Pair
	for range 1 + c.Intn(3) {
		l = append(l, c.pair())
	}
	if c.Intn(30) == 0 {
		l = append(l, api.Pair{Gone: true})
	}
	if c.Intn(30) == 0 {
		l = slices.Repeat(l, 9)
	}
	return l
}

// head is a head, mostly of a batch that is the next one of its producer.
func (c *chooser) head(p api.Place) api.Record {
	head := api.Record{Tick: c.tick}
	if c.Intn(2) == 0 {
		head.Producer = 1 + c.Intn(20)
		if x := c.m.parts[p]; x != nil {
			last := x.last[head.Producer]
			head.Seq = last.seq + last.n*c.Intn(2)
		}
	}
	if c.Intn(30) == 0 {
		head.Tick = -1
	}
	if c.Intn(30) == 0 {
		head.Seq++
	}
	return head
}

func (c *chooser) letDown() release.Release {
	source := api.Place{Topic: c.name(), Part: c.Intn(4)}
	r := release.Release{Rule: c.Intn(16), Label: c.Intn(6), Source: source, Offset: c.Intn(99), Target: c.place(), Pair: c.pair()}
	if c.Intn(20) == 0 {
		r.Rule = 16
	}
	return r
}

// what is the number of a thing to do.
func (c *chooser) what() int {
	sum := 0
	for _, n := range c.mix {
		sum += n
	}
	left := c.Intn(sum)
	for i, n := range c.mix {
		if left < n {
			return i
		}
		left -= n
	}
	return -1
}

// do does one thing, and tells which, and what it came to.
func (c *chooser) do() (string, api.Errno) {
	c.Helper()
	c.tick += c.Intn(3)
	switch c.what() {
	case 0:
		return "Create", c.create(c.spec())
	case 1:
		return "Delete", c.delete(c.name())
	case 2:
		p := c.place()
		return "Append", c.append(p, c.head(p), c.batch()...)
	case 3:
		k := offsets.Key{Group: string([]byte{byte('g' + c.Intn(10))}), Place: c.place()}
		return "Commit", c.commit(k, c.Intn(100)-1)
	case 4:
		r, number := c.letDown(), c.m.releases.Last()+1
		e := c.release(r, c.tick)
		if e == api.OK {
			c.made[number] = r
		}
		return "Release", e
	case 5:
		c.task(c.tick)
		return "Task", api.OK
	case 6:
		c.flush()
		return "Flush", api.OK
	case 7:
		c.open(c.tick)
		return "Open", api.OK
	}
	c.crash(c.tick)
	return "Crash", api.OK
}

// choosing is a chooser of what is done to a store on at least six segments.
func choosing(t *testing.T, seed int) *chooser {
	c := &chooser{Rand: rand.New(rand.NewSource(int64(seed))), mix: mixes()[seed%len(mixes())], made: map[int]release.Release{}}
	c.both = opened(t, 6+c.Intn(12))
	return c
}

// All promises but 27.8 and 27.10, of what is done at random: what is told, what lies on the disk, and how many steps it took are those of the model.
func TestRandom(t *testing.T) {
	counts := map[string]int{}
	for seed := range 100 {
		c := choosing(t, seed)
		stuck := 0
		for range 250 {
			what, e := c.do()
			counts[fmt.Sprint(what, " ", e)]++
			if stuck += len(c.s.Pending()); stuck > 40 {
				break
			}
		}
		for what, n := range c.m.met {
			counts[what] += n
		}
	}
	rare := []string{"cleared alone", "cleared by an entry", "lost", "compacted", "not compacted", "trimmed", "not trimmed", "dropped", "finished", "not finished", "put late", "stays pending", "sure by being written anew"}
	for i := range 3 {
		rare = append(rare, fmt.Sprint("written anew ", i), fmt.Sprint("not written anew ", i))
	}
	for _, what := range append(rare, "Create ok", "Create error 08", "Create error 32", "Delete ok", "Delete error 06", "Delete error 07", "Delete error 32", "Append ok", "Append error 32", "Append error 33", "Commit ok", "Commit error 32", "Release ok", "Release error 32") {
		if counts[what] == 0 {
			t.Errorf("it never came to %s: %v", what, counts)
		}
	}
}
