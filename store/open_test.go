package store_test

import (
	"math"
	"slices"
	"strings"
	"testing"

	"weighlock/api"
	"weighlock/catalog"
	"weighlock/disk"
	"weighlock/header"
	"weighlock/journal"
	"weighlock/offsets"
	"weighlock/pool"
	"weighlock/release"
	"weighlock/scan"
	"weighlock/seglog"
	"weighlock/store"
	"weighlock/super"
	"weighlock/view"
)

// sized is a view of so many sectors.
func sized(t *testing.T, sectors int) *view.View {
	t.Helper()
	d, e := disk.New(sectors)
	wants(t, "disk.New", e, api.OK)
	v, e := view.New(d, 0, sectors)
	wants(t, "view.New", e, api.OK)
	return v
}

// Promise 27.1: views and numbers of segments that may not be.
func TestWrongViews(t *testing.T) {
	both := func(v *view.View, segs int, want api.Errno) {
		t.Helper()
		wants(t, "Format", store.Format(v, segs), want)
		s, e := store.Open(v, segs, 0)
		if s != nil || e != want {
			t.Fatalf("Open: %v, %v, not %v", s, e, want)
		}
	}
	wrong := []int{-1, 0, 1, 5, 7, 65, math.MaxInt, math.MinInt, 1 << 60, 1<<60 + 6, 1<<61 + 6, -6}
	for _, segs := range append(wrong, 6, 64) {
		both(nil, segs, api.ErrState)
	}
	six := sized(t, 2+16*6)
	for _, segs := range append(wrong, 64, 8) {
		both(six, segs, api.ErrArg)
	}
	for _, sectors := range []int{1, 2, 16 * 6, 2 + 16*6 - 1, 2 + 16*6 + 1, 2 + 16*7, 2 + 16*7 - 1} {
		both(sized(t, sectors), 6, api.ErrArg)
	}
	for _, segs := range []int{5, 65} {
		both(sized(t, 2+16*segs), segs, api.ErrArg)
	}
	if six.Steps() != 0 || six.Waiting() != 0 {
		t.Errorf("%d steps, %d wait", six.Steps(), six.Waiting())
	}
	six.Fuse(0)
	wants(t, "Write", six.Write(0, strings.Repeat("x", 64)), api.ErrPower)
	for _, segs := range wrong {
		both(six, segs, api.ErrArg)
	}
	both(six, 6, api.ErrPower)
}

// Promise 27.1: what Format leaves, on a view that had something, and its errors, at each step.
func TestFormat(t *testing.T) {
	for _, segs := range []int{6, 7, 64} {
		for fuse := 0; fuse <= segs+3; fuse++ {
			v := sized(t, 2+16*segs)
			for at := range v.Size() {
				wants(t, "Write", v.Write(at, strings.Repeat("x", 64)), api.OK)
			}
			wants(t, "Flush", v.Flush(), api.OK)
			wants(t, "Crash", v.Crash(nil), api.OK)
			v.Fuse(fuse)
			want := api.ErrPower
			if fuse == segs+3 {
				want = api.OK
			}
			wants(t, "Format", store.Format(v, segs), want)
			if v.Steps() != fuse || fuse > segs && v.Waiting() != max(0, fuse-segs-1)%2 {
				t.Fatalf("%d steps, %d wait", v.Steps(), v.Waiting())
			}
			wants(t, "Crash", v.Crash(nil), api.OK)
			_, e := super.Load(v)
			wants(t, "Load", e, map[bool]api.Errno{true: api.OK, false: api.ErrBroken}[fuse == segs+3])
			for n := range segs {
				was := strings.Repeat("x", 64)
				if fuse > segs { // they are flushed
					was = strings.Repeat("\x00", 64)
				}
				if s, _ := v.Lies(2 + 16*n); s != was {
					t.Fatalf("segment %d behind %d steps: %q", n, fuse, s)
				}
				if s, _ := v.Lies(2 + 16*n + 1); s != strings.Repeat("x", 64) {
					t.Fatalf("segment %d: %q", n, s)
				}
			}
		}
		v := sized(t, 2+16*segs)
		wants(t, "Format", store.Format(v, segs), api.OK)
		if x, e := super.Load(v); (x != super.Super{Seq: 1, Gens: [3]uint32{1, 1, 1}}) || e != api.OK || v.Waiting() != 0 {
			t.Errorf("%v, %v, %d wait", x, e, v.Waiting())
		}
		s, e := store.Open(v, segs, 0)
		if e != api.OK || s.Free() != segs || len(s.Names()) != 0 || len(s.Keys()) != 0 || len(s.Pending()) != 0 || s.Released() != 0 {
			t.Errorf("%v, %d free, %v, %v, %v, %d", e, s.Free(), s.Names(), s.Keys(), s.Pending(), s.Released())
		}
	}
}

// Promise 27.1: supers that can't be loaded, and epochs.
func TestOpensSuper(t *testing.T) {
	v := sized(t, 2+16*6)
	if s, e := store.Open(v, 6, 0); s != nil || e != api.ErrBroken || v.Steps() != 0 {
		t.Errorf("a blank view: %v, %v, %d steps", s, e, v.Steps())
	}
	wants(t, "Format", store.Format(v, 6), api.OK)
	for i := range 5 {
		_, e := store.Open(v, 6, 0)
		wants(t, "Open", e, api.OK)
		if x, _ := super.Load(v); (x != super.Super{Seq: uint32(i + 2), Epoch: uint32(i + 1), Gens: [3]uint32{1, 1, 1}}) {
			t.Errorf("%v", x)
		}
	}
	for _, epoch := range []uint32{65534, 65535} {
		x := super.Super{Seq: epoch + 8, Epoch: epoch, Gens: [3]uint32{4, 5, 6}}
		wants(t, "Store", super.Store(v, x), api.OK)
		wants(t, "Crash", v.Crash(nil), api.OK)
		s, e := store.Open(v, 6, 0)
		if epoch == 65535 {
			if y, _ := super.Load(v); s != nil || e != api.ErrFull || v.Steps() != 0 || y != x {
				t.Errorf("%v, %v, %d steps, %v", s, e, v.Steps(), y)
			}
			continue
		}
		wants(t, "Open", e, api.OK)
		wants(t, "Create", s.Create(api.Spec{Name: "a", Parts: 1}), api.OK)
		l, e := scan.All(v, 6)
		if want := (header.Header{Log: 1, Gen: 4, Stamp: 65535 << 16}); e != api.OK || len(l) != 1 || l[0].Header() != want {
			t.Errorf("%v, %v", e, l)
		}
	}
}

// by is what is put by hand upon a view that was formatted.
type by struct {
	*testing.T
	v *view.View
	p *pool.Pool

	catalog  *catalog.Catalog
	offsets  *offsets.Table
	releases *release.Log
	journals [3]*journal.Journal
}

// hand is a view of so many segments, formatted, on which what follows is put by hand.
func hand(t *testing.T, segs int) *by {
	t.Helper()
	b := &by{T: t, v: blank(t, segs), catalog: catalog.New(), offsets: offsets.New(), releases: release.New()}
	wants(t, "Format", store.Format(b.v, segs), api.OK)
	var e api.Errno
	b.p, e = pool.New(segs, 0)
	wants(t, "pool.New", e, api.OK)
	for i := range b.journals {
		b.journals[i], e = journal.New(b.v, b.p, i+1, 1)
		wants(t, "journal.New", e, api.OK)
	}
	return b
}

// entry puts an entry that was told without an error, and turns what it turns.
func (b *by) entry(i int) func(f api.Frame, e api.Errno) {
	return func(f api.Frame, e api.Errno) {
		b.Helper()
		wants(b.T, "an entry", e, api.OK)
		b.raw(i, f)
		wants(b.T, "Apply", []func(api.Frame) api.Errno{b.catalog.Apply, b.offsets.Apply, b.releases.Apply}[i](f), api.OK)
	}
}

// raw puts a frame into a journal.
func (b *by) raw(i int, f api.Frame) {
	b.Helper()
	wants(b.T, "Append", b.journals[i].Append(f), api.OK)
}

// log puts frames into a log.
func (b *by) log(id int, gen uint32, base int, l ...api.Frame) {
	b.Helper()
	g, e := seglog.New(b.v, b.p, id, gen, base)
	wants(b.T, "seglog.New", e, api.OK)
	for _, f := range l {
		_, e := g.Append(f)
		wants(b.T, "Append", e, api.OK)
	}
}

// opened opens what lies there.
func (b *by) opened(tick int) *store.Store {
	b.Helper()
	s, e := store.Open(b.v, b.p.Size(), tick)
	wants(b.T, "Open", e, api.OK)
	if b.v.Waiting() != 0 {
		b.Fatalf("%d wait", b.v.Waiting())
	}
	return s
}

// broken asks for ErrBroken.
func (b *by) broken(what string) {
	b.Helper()
	if s, e := store.Open(b.v, b.p.Size(), 0); s != nil || e != api.ErrBroken {
		b.Errorf("%s: %v, %v", what, s, e)
	}
}

// entries are those of a journal, as it lies there.
func (b *by) entries(i int) []api.Frame {
	b.Helper()
	l, e := scan.All(b.v, b.p.Size())
	wants(b.T, "All", e, api.OK)
	p, _ := pool.New(b.p.Size(), 0)
	x, e := super.Load(b.v)
	wants(b.T, "Load", e, api.OK)
	j, _, e := journal.Open(b.v, p, i+1, x.Gens[i], l)
	wants(b.T, "Open", e, api.OK)
	return j.Frames()
}

var (
	a0 = api.Place{Topic: "a"}
	a1 = api.Place{Topic: "a", Part: 1}
	b0 = api.Place{Topic: "b"}
)

// at are records at offsets, with these for their values.
func at(offset int, values ...string) []api.Record {
	var l []api.Record
	for i, value := range values {
		l = append(l, api.Record{Offset: offset + i, Tick: 5, Value: value})
	}
	return l
}

// Promise 27.1: entries that may not be, of each journal, alone or behind others.
func TestBrokenEntries(t *testing.T) {
	two, _ := catalog.New().Create(api.Spec{Name: "a", Parts: 2})
	done := api.Frame{Kind: 2, Payload: "\x01"}
	for i, l := range [][]api.Frame{{{Kind: 1}, {Kind: 5, Payload: "x"}, {Kind: 2, Payload: "\x01a"}, {Kind: 3}, {Kind: 255}}, {{Kind: 1}, {Kind: 3}, {Kind: 2, Payload: "\x01A"}}, {{Kind: 4}, {Kind: 1}, done}} {
		for _, f := range l {
			for ahead := range 2 {
				b := hand(t, 6)
				if ahead > 0 {
					b.entry(0)(two, api.OK)
					b.entry(1)(b.offsets.Commit(offsets.Key{Group: "g", Place: a0}, 1))
					b.entry(2)(api.Frame{Kind: 3, Payload: "\x03"}, api.OK)
				}
				if ahead > 0 && f == l[2] && i == 0 { // that topic may go then
					f = two
				}
				b.raw(i, f)
				b.broken("an entry")
			}
		}
	}
	b := hand(t, 6) // the same bytes in another log are nobody's
	b.log(60, 1, 0, api.Frame{Kind: 255})
	b.log(2, 2, 0, api.Frame{Kind: 255})
	if s := b.opened(0); s.Free() != 6 {
		t.Errorf("%d free", s.Free())
	}
}

// Promise 27.1: frames that may not be, in a partition's log.
func TestBrokenFrames(t *testing.T) {
	right := packed(1, at(0, "x", "y"))
	many := []api.Frame{}
	for i := range 17 {
		many = append(many, packed(1, []api.Record{{Offset: i, Producer: 1 + i}}))
	}
	for i, l := range [][]api.Frame{
		{{Kind: 3, Payload: right.Payload}}, {{Kind: 255, Payload: right.Payload}}, {{Kind: 1}}, {{Kind: 2}}, {{Kind: 1, Payload: "x"}},
		{{Kind: 1, Payload: right.Payload + "\x00"}}, {{Kind: 2, Payload: right.Payload[1:]}},
		{right, {Kind: 4, Payload: right.Payload}}, {right, {Kind: 1, Payload: "\x00"}},
		{right, right}, {right, packed(2, at(1, "z"))}, {packed(2, at(7, "z")), right},
		many,
	} {
		b := hand(t, 8)
		b.entry(0)(b.catalog.Create(api.Spec{Name: "a", Parts: 2}))
		b.log(5, 1, 0, l...)
		b.broken(string([]byte{byte('a' + i)}))
	}
	b := hand(t, 8)
	b.entry(0)(b.catalog.Create(api.Spec{Name: "a", Parts: 2}))
	b.log(5, 1, 0, right, packed(2, at(2, "z")))
	b.log(4, 1, 0, many[:16]...)
	if s := b.opened(0); len(s.Records(a1)) != 3 || len(s.Records(a0)) != 16 {
		t.Errorf("%v, %v", s.Records(a1), s.Records(a0))
	}
}

// Promise 27.1: a partition is what its meta tells, and the frames of its log from there on.
func TestOpensPartitions(t *testing.T) {
	table := laidTable(map[int]sent{7: {0, 2, 3}, 9: {4, 1, 8}})
	frames := []api.Frame{
		packed(1, at(0, "0", "1")), packed(1, at(2, "2", "3", "4")),
		packed(1, []api.Record{{Offset: 5, Producer: 7, Seq: 2, Value: "5"}, {Offset: 6, Producer: 7, Seq: 3, Value: "6"}}),
		packed(2, []api.Record{{Offset: 8, Producer: 7, Seq: 50, Value: "8"}, {Offset: 11, Value: "11"}}),
	}
	for _, c := range []struct {
		seq, start, next, wantNext, records int
	}{{0, 0, 0, 12, 9}, {0, 0, 12, 12, 9}, {0, 3, 11, 12, 6}, {0, 3, 12, 12, 6}, {0, 3, 13, 13, 6}, {1, 3, 5, 12, 6}, {2, 5, 5, 12, 4}, {2, 6, 5 + 2, 12, 3}, {3, 7, 40, 40, 2}, {3, 11, 11, 12, 1}, {3, 12, 12, 12, 0}, {4, 12, 12, 12, 0}, {4, 30, 30, 30, 0}} {
		b := hand(t, 8)
		b.entry(0)(b.catalog.Create(api.Spec{Name: "z", Parts: 1}))
		b.entry(0)(b.catalog.Create(api.Spec{Name: "a", Parts: 2}))
		b.entry(0)(b.catalog.Put(a1, catalog.Meta{Gen: 9, Seq: c.seq, Start: c.start, Next: c.next, Table: table}))
		b.log(9, 9, 0, frames...)
		b.log(9, 8, 0, packed(1, at(0, "another gen")))
		b.log(8, 9, 0, packed(1, at(0, "another log's gen")))
		s := b.opened(0)
		start, mark, e := s.Bounds(a1)
		l := s.Records(a1)
		if start != c.start || mark != c.wantNext || e != api.OK || len(l) != c.records || len(l) > 0 && l[0].Offset < c.start {
			t.Errorf("%v: %d, %d, %v, %v", c, start, mark, e, l)
		}
		segs := 2
		if c.seq == 4 { // none of its frames counts any more
			segs = 1
		}
		if s.Free() != 8-segs || len(segments(t, b.v, 8)) != segs {
			t.Errorf("%v: %d free, %v", c, s.Free(), segments(t, b.v, 8))
		}
		if _, mark, e := s.Bounds(a0); mark != 0 || e != api.OK || len(s.Records(a0)) != 0 {
			t.Errorf("%v: %d, %v", s.Records(a0), mark, e)
		}
		wantLast := c.seq <= 2 // that of the frame 2 is noted, if it counts, and that of the frame 3 never
		if offset, last, _ := s.Append(a1, api.Record{Producer: 7, Seq: 2}, make([]api.Pair, 2)); last != wantLast || last && offset != 5 {
			t.Errorf("%v: %d, %v", c, offset, last)
		}
		if offset, last, e := s.Append(a1, api.Record{Producer: 9, Seq: 4}, make([]api.Pair, 1)); offset != 8 || !last || e != api.OK {
			t.Errorf("%v: %d, %v, %v", c, offset, last, e)
		}
	}
}

// Promise 27.1: a log goes on behind its frames, or, if none is left, from the meta's Seq on.
func TestOpenedLogsGoOn(t *testing.T) {
	for _, c := range []struct{ seq, base, frames, want int }{{0, 0, 0, 0}, {6, 0, 0, 6}, {6, 4, 2, 6}, {6, 4, 3, 7}, {6, 6, 1, 7}, {6, 7, 1, 6}} {
		b := hand(t, 6)
		b.entry(0)(b.catalog.Create(api.Spec{Name: "a", Parts: 2}))
		b.entry(0)(b.catalog.Put(a0, catalog.Meta{Gen: 3, Seq: c.seq, Start: 10, Next: 20, Table: "\x00"}))
		var l []api.Frame
		for i := range c.frames {
			l = append(l, packed(1, at(10+i, "x")))
		}
		b.log(4, 3, c.base, l...)
		s := b.opened(0)
		offset, _, e := s.Append(a0, api.Record{}, []api.Pair{{Value: "y"}})
		if offset != 20 || e != api.OK {
			t.Errorf("%v: %d, %v", c, offset, e)
		}
		all := segments(t, b.v, 6)
		if last := all[len(all)-1]; last.log != 4 || last.base != c.want || last.gen != 3 || len(last.frames) != 1 {
			t.Errorf("%v: %v", c, all)
		}
	}
}

// Promise 27.1: segments that are nobody's are cleaned away, whatever they have.
func TestOpenCleans(t *testing.T) {
	b := hand(t, 12)
	b.entry(0)(b.catalog.Create(api.Spec{Name: "a", Parts: 1}))
	b.entry(0)(b.catalog.Create(api.Spec{Name: "b", Parts: 1}))
	b.entry(0)(b.catalog.Delete("b"))
	f := packed(1, at(0, "x"))
	for _, h := range []struct {
		id, base int
		gen      uint32
	}{{3, 0, 2}, {3, 5, 1}, {1, 9, 1}, {4, 4, 1}, {4, 0, 2}, {5, 0, 1}, {8, 0, 2}, {36, 0, 1}, {65535, 0, 1}} {
		b.log(h.id, h.gen, h.base, f)
	}
	b.log(4, 1, 0, f)
	wants(t, "Flush", b.v.Flush(), api.OK)
	s := b.opened(0)
	all := segments(t, b.v, 12)
	if s.Free() != 10 || len(all) != 2 || all[0].log != 1 || all[1].log != 4 || len(s.Records(a0)) != 1 {
		t.Errorf("%d free, %v", s.Free(), all)
	}
	wants(t, "Crash", b.v.Crash(nil), api.OK)
	if again := segments(t, b.v, 12); len(again) != 2 {
		t.Errorf("%v", again)
	}
}

// key is a group's key.
func key(group, name string, part int) offsets.Key {
	return offsets.Key{Group: group, Place: api.Place{Topic: name, Part: part}}
}

// commits puts offsets by hand.
func (b *by) commits(l ...offsets.Key) {
	b.Helper()
	for i, k := range l {
		b.entry(1)(b.offsets.Commit(k, i))
	}
}

// Promise 27.1: offsets of topics that are not there are cleared, by entries, by rising names.
func TestOpenClears(t *testing.T) {
	b := hand(t, 8)
	b.entry(0)(b.catalog.Create(api.Spec{Name: "a", Parts: 1}))
	b.commits(key("g", "z", 0), key("g", "a", 0), key("h", "c", 3), key("h", "b", 0), key("i", "z", 1), key("a", "a", 3), key("i", "a", 0))
	s := b.opened(0)
	if got, want := s.Keys(), []offsets.Key{key("a", "a", 3), key("g", "a", 0), key("i", "a", 0)}; !slices.Equal(got, want) {
		t.Errorf("%v", got)
	}
	if l := b.entries(1); !slices.Equal(l[7:], []api.Frame{{Kind: 2, Payload: "\x01b"}, {Kind: 2, Payload: "\x01c"}, {Kind: 2, Payload: "\x01z"}}) {
		t.Errorf("%v", l[7:])
	}
	if b.v.Steps() == 0 || s.Free() != 8-3 {
		t.Errorf("%d free", s.Free())
	}
	steps := b.v.Steps()
	if b.opened(0); b.v.Steps() != steps+4 { // the super, and two flushes: there is nothing to be done any more
		t.Errorf("%d steps", b.v.Steps()-steps)
	}
}

// fill fills a log of a partition with frames of a segment each.
func (b *by) fill(id int, gen uint32, segs int) {
	b.Helper()
	var l []api.Frame
	for i := range segs {
		big := strings.Repeat("v", 200)
		l = append(l, packed(2, []api.Record{{Offset: 3 * i, Value: big}, {Offset: 3*i + 1, Value: big}, {Offset: 3*i + 2, Value: big}}))
	}
	b.log(id, gen, 0, l...)
}

// Promise 27.1: where there is no room for it, a topic is cleared alone: as often as it is opened.
func TestOpenClearsAlone(t *testing.T) {
	for segs := 6; segs < 8; segs++ {
		b := hand(t, segs)
		b.entry(0)(b.catalog.Create(api.Spec{Name: "a", Parts: 4}))
		for _, group := range strings.Split("ghijklmn", "") {
			b.commits(key(group, "b", 0), key(group, "c", 0))
		}
		b.fill(4, 1, 3)
		for range 3 {
			s := b.opened(0)
			want := 16 + 2*(segs-6)
			if len(s.Keys()) != 0 || len(b.entries(1)) != want || s.Free() != 0 {
				t.Fatalf("%v, %v, %d free", s.Keys(), b.entries(1), s.Free())
			}
			if segs == 6 {
				wants(t, "Commit", s.Commit(key("g", "a", 0), 1), api.ErrPool)
			}
		}
	}
}

// clearedAlone is a store on which the topic b was cleared without an entry, though eight groups had offsets of it; no segment is free, and the topic c has one.
func clearedAlone(t *testing.T) *both {
	t.Helper()
	b := opened(t, 6)
	for _, name := range []string{"a", "b", "c"} {
		b.create(api.Spec{Name: name, Parts: 4})
	}
	b.append(api.Place{Topic: "c"}, api.Record{}, api.Pair{Value: "x"})
	for i := range 60 {
		wants(t, "Commit", b.commit(key(string([]byte{byte('g' + i%8)}), "b", i/8%4), i), api.OK)
	}
	wants(t, "Delete", b.delete("b"), api.OK)
	if len(b.s.Keys()) != 0 || b.s.Free() != 0 || b.m.met["cleared alone"] != 1 {
		t.Fatalf("%v, %d free", b.s.Keys(), b.s.Free())
	}
	return b
}

// Promise 27.8, of a topic that was cleared alone: what clears it is put ahead of the next offset, so that the journal never has a group too many.
func TestClearedAlone(t *testing.T) {
	for _, again := range []bool{false, true} {
		for _, anew := range []bool{false, true} {
			b := clearedAlone(t)
			for range 2 {
				wants(t, "Commit", b.commit(key("o", "a", 0), 7), api.ErrPool)
			}
			wants(t, "Delete", b.delete("c"), api.OK)
			if anew {
				b.task(0)
			}
			if again {
				wants(t, "Create", b.create(api.Spec{Name: "b", Parts: 1}), api.OK)
				wants(t, "Commit", b.commit(key("o", "b", 0), 7), api.OK)
			}
			wants(t, "Commit", b.commit(key("p", "a", 0), 7), api.OK)
			wants(t, "Commit", b.commit(key("g", "a", 0), 8), api.OK)
			keys := b.s.Keys()
			b.flush()
			for range 2 {
				b.crash(0)
				if !slices.Equal(b.s.Keys(), keys) || len(keys) < 2 {
					t.Fatalf("%v", b.s.Keys())
				}
			}
			if late := b.m.met["cleared late"]; late != 1 && !anew || late != 0 && anew {
				t.Errorf("%v", b.m.met)
			}
		}
	}
}

// made is a release to a place, with a value.
func made(target api.Place, value string) release.Release {
	return release.Release{Source: api.Place{Topic: "from"}, Target: target, Pair: api.Pair{Value: value}}
}

// releasesOf are the numbers of the releases by which records came.
func releasesOf(l []api.Record) []int {
	var n []int
	for _, r := range l {
		n = append(n, r.From)
	}
	return n
}

// Promise 27.1: releases up to the greatest From of any record are done, alone; pending ones are put, by rising numbers, at the tick; those to no partition count as put.
func TestOpensReleases(t *testing.T) {
	for _, c := range []struct {
		from, finished int // the greatest From that lies there, and what an entry tells to be done
		want, other    []int
	}{
		{0, 0, []int{1, 3, 4}, []int{0, 5}}, {2, 0, []int{2, 3, 4}, []int{0, 5}}, {2, 1, []int{2, 3, 4}, []int{0, 5}}, {1, 2, []int{1, 3, 4}, []int{0, 5}},
		{4, 0, []int{4}, []int{0, 5}}, {5, 0, []int{5}, []int{0}}, {6, 0, []int{6}, []int{0}}, {9, 3, []int{9}, []int{0}}, {0, 5, []int{0}, []int{0}}, {3, 4, []int{3}, []int{0, 5}},
	} {
		b := hand(t, 10)
		b.entry(0)(b.catalog.Create(api.Spec{Name: "a", Parts: 1}))
		b.entry(0)(b.catalog.Create(api.Spec{Name: "b", Parts: 2}))
		for _, r := range []release.Release{made(a0, "1"), made(api.Place{Topic: "b", Part: 2}, "2"), made(a0, "3"), made(a0, "4"), made(b0, "5")} {
			b.entry(2)(b.releases.Make(r))
		}
		if c.finished > 0 {
			b.entry(2)(b.releases.Finish(c.finished))
		}
		if c.want[0] != 1 || c.from == 1 {
			b.log(4, 1, 0, packed(1, []api.Record{{From: c.from, Value: "there"}}))
		}
		b.log(8, 2, 0, packed(2, []api.Record{{Value: "ahead"}}))
		lay := len(b.entries(2))
		s := b.opened(77)
		if got := releasesOf(s.Records(a0)); !slices.Equal(got, c.want) || s.Released() != 5 || len(s.Pending()) != 0 || len(b.entries(2)) != lay {
			t.Errorf("%v: %v, %d, %v, %v", c, got, s.Released(), s.Pending(), b.entries(2))
		}
		if got := releasesOf(s.Records(b0)); !slices.Equal(got, c.other) {
			t.Errorf("%v: %v", c, got)
		}
		for _, p := range []api.Place{a0, b0} {
			_, mark, _ := s.Bounds(p)
			for i, r := range s.Records(p) {
				if late := i > 0 || r.Value == "1"; late && (r != api.Record{Offset: i, Tick: 77, From: r.From, Value: string([]byte{byte('0' + r.From)})}) || late != (r.Offset >= mark) {
					t.Errorf("%v: %v, the mark %d", c, r, mark)
				}
			}
		}
		before := text(s)
		for range 2 {
			wants(t, "Crash", b.v.Crash(nil), api.OK)
			if after := text(b.opened(78)); after != before {
				t.Errorf("%v: %s, not %s", c, after, before)
			}
		}
	}
}

// Promise 27.5: a release whose record has no room, or may not be, stays pending, and so do those behind it; it is put as soon as it can be.
func TestStaysPending(t *testing.T) {
	b := hand(t, 7)
	b.entry(0)(b.catalog.Create(api.Spec{Name: "a", Parts: 2}))
	for _, r := range []release.Release{made(a0, "1"), made(a1, "2"), made(b0, "3")} {
		b.entry(2)(b.releases.Make(r))
	}
	b.fill(5, 1, 3)
	for _, tick := range []int{-1, math.MinInt, 1<<40 + 1, math.MaxInt, 5, 0, 1 << 40} {
		s := b.opened(tick)
		if len(s.Pending()) != 3 || s.Released() != 3 || s.Free() != 2 || len(s.Records(a0)) != 0 || len(s.Records(a1)) != 9 {
			t.Fatalf("at %d: %v, %d free", tick, s.Pending(), s.Free())
		}
		wants(t, "Task", s.Task(tick), api.OK)
		wants(t, "Delete", s.Delete("a"), api.ErrState)
		wants(t, "Delete", s.Delete("b"), api.ErrNone)
		if _, e := s.Release(made(a1, "4"), 0); e != api.ErrPool || s.Released() != 3 || len(s.Pending()) != 3 {
			t.Fatalf("%v", e)
		}
	}
	b = hand(t, 8) // the same with more room
	b.entry(0)(b.catalog.Create(api.Spec{Name: "a", Parts: 2, Size: 1}))
	for _, r := range []release.Release{made(b0, "1"), made(a0, "2"), made(a1, "3")} {
		b.entry(2)(b.releases.Make(r))
	}
	b.fill(5, 1, 1)
	s := b.opened(-1)
	if l := s.Pending(); len(l) != 2 || l[0].Number != 2 || l[1].Number != 3 || s.Free() != 5 {
		t.Fatalf("%v, %d free", l, s.Free())
	}
	steps := b.v.Steps()
	wants(t, "Task", s.Task(-1), api.OK)
	if len(s.Pending()) != 2 || b.v.Steps() != steps {
		t.Fatalf("%v, %d steps", s.Pending(), b.v.Steps()-steps)
	}
	wants(t, "Task", s.Task(9), api.OK)
	if got := s.Records(a1); len(s.Pending()) != 0 || len(got) != 4 || got[3] != (api.Record{Offset: 3, Tick: 9, Value: "3", From: 3}) {
		t.Fatalf("%v, %v", s.Pending(), got)
	}
	if start, mark, _ := s.Bounds(a0); start != 1 || mark != 1 { // and then it is the turn of the first one
		t.Errorf("%d, %d", start, mark)
	}
}
