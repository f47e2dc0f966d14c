package store_test

import (
	"math"
	"slices"
	"strings"
	"testing"

	"weighlock/api"
	"weighlock/disk"
	"weighlock/offsets"
	"weighlock/release"
	"weighlock/store"
	"weighlock/view"
)

// The example of the chapter.
func TestExample(t *testing.T) {
	b := opened(t, 6)
	wants(t, "Create", b.create(api.Spec{Name: "a", Parts: 1}), api.OK)
	if at, last, e := b.s.Append(a0, api.Record{Tick: 3}, []api.Pair{{Key: "k", Value: "v"}}); at != 0 || last || e != api.OK {
		t.Fatalf("%d, %v, %v", at, last, e)
	}
	wants(t, "Flush", b.s.Flush(), api.OK)
	for range 2 {
		wants(t, "Crash", b.v.Crash(nil), api.OK)
		s, e := store.Open(b.v, 6, 0)
		if l := s.Records(a0); e != api.OK || len(l) != 1 || l[0] != (api.Record{Tick: 3, Key: "k", Value: "v"}) {
			t.Fatalf("%v, %v", e, l)
		}
	}
}

// asksOfNone asks a store without anything for all that it tells; its calls answer an error.
func asksOfNone(t *testing.T, s *store.Store, none api.Errno) {
	t.Helper()
	if s.Names() != nil || s.Records(a0) != nil || s.Keys() != nil || s.Pending() != nil || s.Released() != 0 || s.Free() != 0 {
		t.Errorf("%v, %v, %v, %v, %d, %d", s.Names(), s.Records(a0), s.Keys(), s.Pending(), s.Released(), s.Free())
	}
	wants(t, "Create", s.Create(api.Spec{Name: "a", Parts: 1}), api.ErrState)
	wants(t, "Create", s.Create(api.Spec{}), api.ErrState)
	wants(t, "Delete", s.Delete("a"), api.ErrState)
	wants(t, "Flush", s.Flush(), api.ErrState)
	if x, e := s.Spec("a"); x != (api.Spec{}) || e != api.ErrState {
		t.Errorf("Spec: %v, %v", x, e)
	}
	if at, last, e := s.Append(a0, api.Record{Producer: -1}, nil); at != 0 || last || e != none {
		t.Errorf("Append: %d, %v, %v", at, last, e)
	}
	if l, on, e := s.Fetch(a0, -1, 5); l != nil || on != 0 || e != none {
		t.Errorf("Fetch: %v, %d, %v", l, on, e)
	}
	if start, mark, e := s.Bounds(a0); start != 0 || mark != 0 || e != none {
		t.Errorf("Bounds: %d, %d, %v", start, mark, e)
	}
	wants(t, "Commit", s.Commit(key("", "a", 0), -1), none)
	if n, e := s.Offset(key("", "a", 0)); n != 0 || e != none {
		t.Errorf("Offset: %d, %v", n, e)
	}
	if at, e := s.Release(release.Release{Rule: -1}, -1); at != 0 || e != none {
		t.Errorf("Release: %d, %v", at, e)
	}
}

// Promises 27.2 to 27.7: of nil.
func TestNil(t *testing.T) {
	var s *store.Store
	asksOfNone(t, s, api.ErrState)
	wants(t, "Task", s.Task(0), api.ErrState)
	asksOfNone(t, &store.Store{}, api.ErrNone) // one that was never opened has nothing, and does not die
	wants(t, "Task", new(store.Store).Task(0), api.OK)
}

// Promise 27.2: topics that may not be, and too many of them.
func TestCreate(t *testing.T) {
	b := opened(t, 6)
	for _, x := range []api.Spec{{}, {Name: "A", Parts: 1}, {Name: "a"}, {Name: "a", Parts: 5}, {Name: "a", Parts: 1, Age: -1}, {Name: "a", Parts: 1, Size: 1<<40 + 1}, {Name: "a", Parts: -1}} {
		wants(t, "Create", b.create(x), api.ErrArg)
	}
	for i := range 8 {
		x := api.Spec{Name: string([]byte{byte('a' + i)}), Parts: 1 + i%4, Age: i, Size: 3 * i, Compact: i%2 > 0}
		wants(t, "Create", b.create(x), api.OK)
		x.Parts = 1
		wants(t, "Create", b.create(x), api.ErrSame)
		x.Name = "A"
		wants(t, "Create", b.create(x), api.ErrArg)
	}
	wants(t, "Create", b.create(api.Spec{Name: "i", Parts: 1}), api.ErrFull)
	wants(t, "Create", b.create(api.Spec{Name: "a", Parts: 1}), api.ErrSame)
	wants(t, "Delete", b.delete("c"), api.OK)
	wants(t, "Create", b.create(api.Spec{Name: "i", Parts: 4}), api.OK)
	if got := b.s.Names(); !slices.Equal(got, []string{"a", "b", "d", "e", "f", "g", "h", "i"}) {
		t.Errorf("%v", got)
	}
	b.flush()
	b.crash(0)
}

// full lets a store of six segments, with the topics a and b, commit so often that no segment is free, and no entry of the offsets has room; on b0 there is a segment of records.
func full(t *testing.T) *both {
	t.Helper()
	b := opened(t, 6)
	b.create(api.Spec{Name: "a", Parts: 4})
	b.create(api.Spec{Name: "b", Parts: 4})
	b.append(b0, api.Record{}, api.Pair{Value: "x"})
	for i := range 60 {
		wants(t, "Commit", b.commit(key("g", "a", i%4), i), api.OK)
	}
	if b.s.Free() != 0 {
		t.Fatalf("%d free", b.s.Free())
	}
	wants(t, "Commit", b.commit(key("g", "a", 0), 1), api.ErrPool)
	return b
}

// Promises 27.2 and 27.4: entries without room, the order of errors ahead of that, and that nothing is changed.
func TestNoRoomForEntries(t *testing.T) {
	b := full(t)
	for _, name := range strings.Split("cdefgh", "") { // the catalog's last segment has room still, as each entry is a place
		wants(t, "Create", b.create(api.Spec{Name: name, Parts: 1}), api.OK)
	}
	for range 3 {
		wants(t, "Delete", b.delete("h"), api.OK)
		wants(t, "Create", b.create(api.Spec{Name: "h", Parts: 1}), api.OK)
	}
	wants(t, "Delete", b.delete("h"), api.OK) // that is the fifteenth
	before := text(b.s)
	wants(t, "Create", b.create(api.Spec{Name: "h", Parts: 1}), api.ErrPool)
	wants(t, "Create", b.create(api.Spec{Name: "a", Parts: 1}), api.ErrSame)
	wants(t, "Create", b.create(api.Spec{Name: "i"}), api.ErrArg)
	wants(t, "Delete", b.delete("b"), api.ErrPool)
	wants(t, "Delete", b.delete("h"), api.ErrNone)
	wants(t, "Commit", b.commit(key("g", "h", 0), 1), api.ErrNone)
	wants(t, "Commit", b.commit(key("g", "a", 4), 1), api.ErrNone)
	wants(t, "Commit", b.commit(key("G", "a", 0), 1), api.ErrArg)
	wants(t, "Commit", b.commit(key("g", "a", 0), 1<<20+2), api.ErrArg)
	wants(t, "Commit", b.commit(key("g", "a", 0), 1), api.ErrPool)
	if after := text(b.s); after != before {
		t.Errorf("%s, not %s", after, before)
	}
	b.crash(0) // all journals are sealed then
	wants(t, "Create", b.create(api.Spec{Name: "h", Parts: 1}), api.ErrPool)
}

// Promise 27.2: releases are finished ahead of a topic's end, and stay finished if that has no room then.
func TestDeleteFinishes(t *testing.T) {
	b := opened(t, 6)
	b.create(api.Spec{Name: "a", Parts: 1})
	b.create(api.Spec{Name: "b", Parts: 1})
	b.release(made(a0, "1"), 3)
	b.flush()
	b.crash(4) // the catalog's journal is sealed, and that of releases
	for i := 0; b.s.Free() > 1; i++ {
		wants(t, "Commit", b.commit(key("g", "a", 0), i), api.OK)
	}
	wants(t, "Delete", b.delete("b"), api.ErrPool) // what finished the release took the last segment
	if b.s.Free() != 0 || len(b.s.Names()) != 2 {
		t.Fatalf("%d free, %v", b.s.Free(), b.s.Names())
	}
	steps := b.v.Steps()
	wants(t, "Delete", b.delete("b"), api.ErrPool)
	if b.v.Steps() != steps {
		t.Errorf("%d steps", b.v.Steps()-steps)
	}
	b.crash(5)
	if b.s.Released() != 1 || len(b.s.Records(a0)) != 1 {
		t.Errorf("%d, %v", b.s.Released(), b.s.Records(a0))
	}
}

// Promise 27.10, of releases whose records are let go: none comes again.
func TestNoneComesAgain(t *testing.T) {
	for _, x := range []api.Spec{{Size: 1}, {Age: 1}, {Compact: true}, {Compact: true, Age: 1}, {}} {
		b := opened(t, 12)
		x.Name, x.Parts = "a", 1
		b.create(x)
		for i := range 5 {
			r := made(a0, strings.Repeat("v", i))
			r.Pair.Key = "k"
			r.Pair.Gone = x.Age > 0 && r.Pair.Value == ""
			wants(t, "Release", b.release(r, i), api.OK)
		}
		if x == (api.Spec{Name: "a", Parts: 1}) {
			wants(t, "Delete", b.delete("a"), api.OK)
			wants(t, "Create", b.create(x), api.OK)
		} else {
			b.task(40)
		}
		left := b.s.Records(a0)
		if len(left) > 1 || b.s.Released() != 5 {
			t.Fatalf("%v: %v, %d", x, left, b.s.Released())
		}
		for range 3 {
			b.flush()
			b.crash(99)
			b.task(40)
			if !slices.Equal(b.s.Records(a0), left) || b.s.Released() != 5 {
				t.Fatalf("%v: %v, not %v, %d", x, b.s.Records(a0), left, b.s.Released())
			}
		}
	}
}

// Promise 27.3: the errors of Append, in their order.
func TestAppendsErrors(t *testing.T) {
	b := opened(t, 6)
	b.create(api.Spec{Name: "a", Parts: 1})
	right := api.Pair{Value: "x"}
	wrong := api.Pair{Gone: true}
	wants(t, "Append", b.append(a0, api.Record{Producer: 5}, right, right), api.OK)
	for _, c := range []struct {
		p    api.Place
		head api.Record
		l    []api.Pair
		want api.Errno
	}{
		{a1, api.Record{Producer: -1}, nil, api.ErrNone}, {api.Place{Topic: "a", Part: -1}, api.Record{}, []api.Pair{right}, api.ErrNone}, {b0, api.Record{}, []api.Pair{right}, api.ErrNone}, {api.Place{}, api.Record{}, []api.Pair{right}, api.ErrNone},
		{a0, api.Record{Producer: 5}, nil, api.ErrArg}, {a0, api.Record{Producer: 5, Seq: 9}, []api.Pair{right, wrong}, api.ErrArg}, {a0, api.Record{Producer: 5, Seq: 9}, slices.Repeat([]api.Pair{right}, 9), api.ErrLong},
		{a0, api.Record{Producer: -1, Tick: -1}, []api.Pair{right}, api.ErrArg}, {a0, api.Record{Producer: 1<<40 + 1}, []api.Pair{right}, api.ErrArg}, {a0, api.Record{Producer: 5, Seq: -2}, []api.Pair{right}, api.ErrArg},
		{a0, api.Record{Producer: 5, Seq: 3, Tick: -1}, []api.Pair{right}, api.ErrGap}, {a0, api.Record{Producer: 6, Seq: 1}, []api.Pair{right}, api.ErrGap}, {a0, api.Record{Producer: 5}, []api.Pair{right}, api.ErrGap},
		{a0, api.Record{Producer: 5, Seq: 2, Tick: -1}, []api.Pair{right}, api.ErrRange}, {a0, api.Record{Tick: 1<<40 + 1}, []api.Pair{right}, api.ErrRange}, {a0, api.Record{Seq: 1}, []api.Pair{right}, api.ErrRange}, {a0, api.Record{From: -1}, []api.Pair{right}, api.ErrRange},
	} {
		wants(t, "Append", b.append(c.p, c.head, c.l...), c.want)
	}
	for _, tick := range []int{-1, 7} { // the last batch again, whatever else its head has, and though another one would be refused
		at, last, e := b.s.Append(a0, api.Record{Producer: 5, Tick: tick, From: tick, Offset: 99, Key: "k", Gone: true}, []api.Pair{{Value: "other"}, right})
		if at != 0 || !last || e != api.OK {
			t.Errorf("%d, %v, %v", at, last, e)
		}
	}
	head := api.Record{Offset: 77, Tick: 4, Key: "k", Value: "v", Gone: true, Producer: 5, Seq: 2, From: 6}
	wants(t, "Append", b.append(a0, head, right, api.Pair{Key: "l", Gone: true}), api.OK)
	want := []api.Record{{Offset: 2, Tick: 4, Value: "x", Producer: 5, Seq: 2, From: 6}, {Offset: 3, Tick: 4, Key: "l", Gone: true, Producer: 5, Seq: 3, From: 6}}
	if got := b.s.Records(a0)[2:]; !slices.Equal(got, want) {
		t.Errorf("%v", got)
	}
	for i := range 15 {
		wants(t, "Append", b.append(a0, api.Record{Producer: 100 + i}, right), api.OK)
	}
	wants(t, "Append", b.append(a0, api.Record{Producer: 200}, right), api.ErrFull)
	wants(t, "Append", b.append(a0, api.Record{Producer: 200, Tick: -1}, right), api.ErrFull)
}

// Promise 27.3: the last offset of all.
func TestLastOffset(t *testing.T) {
	b := hand(t, 6)
	b.entry(0)(b.catalog.Create(api.Spec{Name: "a", Parts: 1}))
	b.log(4, 1, 0, packed(1, at(1<<20-2, "x")))
	s := b.opened(0)
	right := api.Pair{Value: "x"}
	if at, _, e := s.Append(a0, api.Record{}, []api.Pair{right, right, right}); at != 0 || e != api.ErrRange {
		t.Errorf("%d, %v", at, e)
	}
	if at, _, e := s.Append(a0, api.Record{}, []api.Pair{right, right}); at != 1<<20-1 || e != api.OK {
		t.Errorf("%d, %v", at, e)
	}
	if at, _, e := s.Append(a0, api.Record{}, []api.Pair{right}); at != 0 || e != api.ErrRange {
		t.Errorf("%d, %v", at, e)
	}
	if at, e := s.Release(made(a0, "x"), 0); at != 0 || e != api.ErrRange || s.Released() != 0 || len(s.Pending()) != 0 {
		t.Errorf("%d, %v", at, e)
	}
	wants(t, "Flush", s.Flush(), api.OK)
	if _, mark, e := s.Bounds(a0); mark != 1<<20+1 || e != api.OK {
		t.Errorf("%d, %v", mark, e)
	}
}

// Promise 27.3: no batch takes one of the last two free segments, but one that fits is put.
func TestReserve(t *testing.T) {
	b := opened(t, 6)
	b.create(api.Spec{Name: "a", Parts: 2})
	big := []api.Pair{{Value: strings.Repeat("v", 200)}, {Value: strings.Repeat("v", 200)}, {Value: strings.Repeat("w", 100)}} // eleven places
	for range 3 {
		wants(t, "Append", b.append(a0, api.Record{}, big...), api.OK)
	}
	if b.s.Free() != 2 {
		t.Fatalf("%d free", b.s.Free())
	}
	wants(t, "Append", b.append(a0, api.Record{}, big...), api.ErrPool)
	wants(t, "Append", b.append(a1, api.Record{}, api.Pair{}), api.ErrPool)
	for i := range 4 {
		wants(t, "Append", b.append(a0, api.Record{Producer: 9, Seq: i}, api.Pair{}), api.OK)
	}
	wants(t, "Append", b.append(a0, api.Record{}, api.Pair{}), api.ErrPool)
	wants(t, "Append", b.append(a0, api.Record{Producer: 9, Seq: 4}, api.Pair{}), api.ErrPool)
	wants(t, "Append", b.append(a0, api.Record{Producer: 9, Seq: 3}, api.Pair{}), api.OK) // it was put before
	wants(t, "Append", b.append(a0, api.Record{Producer: 9, Seq: 5}, api.Pair{}), api.ErrGap)
	if b.s.Free() != 2 {
		t.Errorf("%d free", b.s.Free())
	}
}

// Promises 27.3 and 27.7: readers see what was flushed by Flush, and no more; other flushes leave marks as they are.
func TestMarks(t *testing.T) {
	b := opened(t, 12)
	b.create(api.Spec{Name: "a", Parts: 2, Size: 1000})
	seen := func(want int) {
		t.Helper()
		_, mark, e := b.s.Bounds(a0)
		l, on, wrong := b.s.Fetch(a0, 0, 16)
		if mark != want || len(l) != want || on != want || e != api.OK || wrong != api.OK {
			t.Fatalf("%d, %v, %d, %v, %v, not %d", mark, l, on, e, wrong, want)
		}
		if _, _, e := b.s.Fetch(a0, want+1, 1); e != api.ErrOffset {
			t.Fatalf("beyond the mark: %v", e)
		}
	}
	b.append(a0, api.Record{}, api.Pair{Value: "x"})
	seen(0)
	b.release(made(a1, "1"), 0)
	seen(0)
	b.release(made(a0, "2"), 0)
	seen(0)
	b.task(0)
	wants(t, "Create", b.create(api.Spec{Name: "b", Parts: 1}), api.OK)
	wants(t, "Delete", b.delete("b"), api.OK)
	seen(0)
	b.flush()
	seen(2)
	b.append(a0, api.Record{}, api.Pair{Value: "y"}, api.Pair{Value: "z"})
	seen(2)
	b.open(0) // what is read is seen
	seen(4)
}

// Promise 27.4: offsets of groups.
func TestOffsets(t *testing.T) {
	b := opened(t, 6)
	b.create(api.Spec{Name: "a", Parts: 2})
	for i := range 8 {
		wants(t, "Commit", b.commit(key(string([]byte{byte('g' + i)}), "a", i%2), 1<<20+1-i), api.OK)
	}
	wants(t, "Commit", b.commit(key("o", "a", 0), 1), api.ErrFull)
	wants(t, "Commit", b.commit(key("o", "a", 0), -1), api.ErrArg)
	wants(t, "Commit", b.commit(key("o", "a", 2), -1), api.ErrNone)
	wants(t, "Commit", b.commit(key("g", "a", 0), 5), api.OK)
	for _, c := range []struct {
		k    offsets.Key
		want int
		e    api.Errno
	}{{key("g", "a", 0), 5, api.OK}, {key("h", "a", 1), 1 << 20, api.OK}, {key("h", "a", 0), 0, api.ErrNone}, {key("o", "a", 0), 0, api.ErrNone}, {key("g", "a", 2), 0, api.ErrNone}, {key("g", "b", 0), 0, api.ErrNone}, {key("", "a", 0), 0, api.ErrNone}} {
		if n, e := b.s.Offset(c.k); n != c.want || e != c.e {
			t.Errorf("%v: %d, %v", c.k, n, e)
		}
	}
	b.flush()
	b.crash(0)
}

// Promise 27.5: the errors of Release, in their order.
func TestReleasesErrors(t *testing.T) {
	b := opened(t, 6)
	b.create(api.Spec{Name: "a", Parts: 1})
	wrong := made(a0, "x")
	wrong.Rule = 16
	long := made(a0, strings.Repeat("x", 201))
	for _, tick := range []int{-1, 0, 1<<40 + 1} {
		want := map[bool]api.Errno{true: api.OK, false: api.ErrRange}[tick == 0]
		for _, p := range []api.Place{a1, b0, {}, {Topic: "a", Part: -1}} {
			r := wrong
			r.Target = p
			wants(t, "Release", b.release(r, tick), api.ErrNone)
		}
		wants(t, "Release", b.release(wrong, tick), api.ErrArg)
		wants(t, "Release", b.release(long, tick), api.ErrArg)
		wants(t, "Release", b.release(made(a0, "x"), tick), want)
	}
	r := made(a0, "")
	r.Number, r.Pair.Key, r.Pair.Gone = 77, "k", true // the number is none of the caller's
	wants(t, "Release", b.release(r, 1<<40), api.OK)
	if l := b.s.Records(a0); len(l) != 2 || l[1] != (api.Record{Offset: 1, Tick: 1 << 40, Key: "k", Gone: true, From: 2}) {
		t.Errorf("%v", l)
	}
}

// Promise 27.5: a release needs room for its entry, and then for its record.
func TestReleasesRoom(t *testing.T) {
	big := strings.Repeat("v", 200)
	for _, c := range []struct {
		fits, entryFits bool
		free            int
		want            api.Errno
	}{
		{true, true, 0, api.OK}, {true, false, 1, api.OK}, {true, false, 0, api.ErrPool}, {false, true, 3, api.OK}, {false, true, 2, api.ErrPool}, {false, false, 4, api.OK}, {false, false, 3, api.ErrPool},
	} {
		b := opened(t, 9)
		b.create(api.Spec{Name: "a", Parts: 1})
		b.create(api.Spec{Name: "b", Parts: 1})
		if c.entryFits {
			wants(t, "Release", b.release(made(b0, "x"), 0), api.OK)
		}
		if c.fits {
			wants(t, "Append", b.append(a0, api.Record{}, api.Pair{Value: "x"}), api.OK)
		}
		for i := 0; b.s.Free() > c.free; i++ {
			wants(t, "Commit", b.commit(key("g", "b", 0), i), api.OK)
		}
		before := b.s.Released()
		wants(t, "Release", b.release(made(a0, big), 0), c.want)
		if c.want != api.OK && b.s.Released() != before || len(b.s.Pending()) != 0 {
			t.Errorf("%v: %d, %v", c, b.s.Released(), b.s.Pending())
		}
	}
}

// Promise 27.5: a release is sure before its record is put: whatever stays, no record comes without it.
func TestReleaseIsSure(t *testing.T) {
	for fuse := range 9 {
		b := opened(t, 6)
		b.create(api.Spec{Name: "a", Parts: 1})
		b.append(a0, api.Record{}, api.Pair{Value: "ahead"})
		b.v.Fuse(fuse)
		_, e := b.s.Release(made(a0, "down"), 5)
		steps := b.v.Steps()
		wants(t, "Crash", b.v.Crash(nil), api.OK)
		s, wrong := store.Open(b.v, 6, 9)
		wants(t, "Open", wrong, api.OK)
		// a flush, a sector of the journal's header, and one of the entry, a flush, and a sector of the record
		records, released := map[bool]int{true: 2, false: 1}[fuse >= 4], map[bool]int{true: 1, false: 0}[fuse >= 4]
		if fuse == 0 {
			records = 0
		}
		if want := map[bool]api.Errno{true: api.OK, false: api.ErrPower}[fuse >= 5]; e != want || len(s.Records(a0)) != records || s.Released() != released {
			t.Errorf("%d of %d steps: %v, %v, %d", fuse, steps, e, s.Records(a0), s.Released())
		}
	}
}

// Promise 27.6: partitions have their turns, by topics and numbers.
func TestTurns(t *testing.T) {
	b := opened(t, 20)
	b.task(0) // without partitions the turn stays
	for _, name := range []string{"c", "a", "b"} {
		b.create(api.Spec{Name: name, Parts: 2, Size: 1})
	}
	places := []api.Place{a0, a1, b0, {Topic: "b", Part: 1}, {Topic: "c"}, {Topic: "c", Part: 1}}
	turn := func(want int) {
		t.Helper()
		b.task(0)
		for i, p := range b.m.places() {
			if (len(b.s.Records(p)) == 0) != (i == want) {
				t.Fatalf("%v has %v, and it is the turn of %d", p, b.s.Records(p), want)
			}
			if i == want {
				b.append(p, api.Record{}, api.Pair{Value: "x"})
			}
		}
	}
	for _, p := range places {
		b.append(p, api.Record{}, api.Pair{Value: "x"})
	}
	for i := range 10 {
		turn(i % 6)
	}
	b.delete("a") // the turn is 4 then, of 4
	turn(0)
	turn(1)
	b.create(api.Spec{Name: "a", Parts: 1, Size: 1})
	b.append(a0, api.Record{}, api.Pair{Value: "x"})
	turn(2)
	b.flush()
	b.open(0)
	turn(0)
}

// Promise 27.6: by keys, more than half have to go, and there have to be segments for all that is kept.
func TestHalf(t *testing.T) {
	for kept := 1; kept < 6; kept++ {
		for goes := range 8 {
			b := opened(t, 6)
			b.create(api.Spec{Name: "a", Parts: 1, Compact: true})
			for range goes {
				b.append(a0, api.Record{}, api.Pair{Key: "k", Value: "v"})
			}
			b.append(a0, api.Record{}, api.Pair{Key: "k", Value: "v"})
			for range kept - 1 {
				b.append(a0, api.Record{}, api.Pair{Value: "v"})
			}
			b.task(0)
			want := kept + goes
			if goes > kept {
				want = kept
			}
			if l := b.s.Records(a0); len(l) != want || b.s.Free() != 4 {
				t.Errorf("%d of %d: %v, %d free", goes, kept+goes, l, b.s.Free())
			}
		}
	}
}

// Promise 27.6: tombstones go by keys, by the tick less the age.
func TestTombstones(t *testing.T) {
	for _, c := range []struct{ age, tick, want int }{{0, 1 << 40, 1}, {3, 8, 1}, {3, 9, 0}, {5, 10, 1}, {5, 11, 0}, {4, -1, 1}, {4, math.MinInt, 1}, {1, math.MaxInt, 0}, {1 << 40, 1 << 40, 1}} {
		b := opened(t, 6)
		b.create(api.Spec{Name: "a", Parts: 1, Compact: true, Age: c.age})
		for range 4 {
			b.append(a0, api.Record{Tick: c.tick & 63}, api.Pair{Key: "k", Value: "v"})
		}
		b.append(a0, api.Record{Tick: 5}, api.Pair{Key: "k", Gone: true})
		b.append(a0, api.Record{Tick: 1 << 40}, api.Pair{Value: "v"}) // all stays by age that stands ahead of a young one
		b.task(c.tick)
		has := slices.ContainsFunc(b.s.Records(a0), func(r api.Record) bool { return r.Gone })
		if has != (c.want == 1) {
			t.Errorf("%v: %v", c, b.s.Records(a0))
		}
	}
}

// Promise 27.6: without an age no tombstone goes, whatever its tick.
func TestTombstonesStay(t *testing.T) {
	b := opened(t, 6)
	b.create(api.Spec{Name: "a", Parts: 1, Compact: true})
	for range 2 {
		b.append(a0, api.Record{}, api.Pair{Key: "k", Value: "v"})
	}
	b.append(a0, api.Record{}, api.Pair{Key: "k", Gone: true})
	b.task(0)
	if l := b.s.Records(a0); len(l) != 1 || !l[0].Gone {
		t.Errorf("%v", l)
	}
}

// Promise 27.6: behind the last gen there is none, and nothing goes by keys any more.
func TestLastGen(t *testing.T) {
	for gens := range 2 {
		b := hand(t, 8)
		b.entry(0)(b.catalog.Create(api.Spec{Name: "a", Parts: 1, Compact: true}))
		b.entry(0)(api.Frame{Kind: 4, Payload: laidChain(1<<32 - 1 - gens)}, api.OK)
		s := b.opened(0)
		for range 4 {
			wants(t, "Append", errorOf(s.Append(a0, api.Record{}, []api.Pair{{Key: "k", Value: "v"}})), api.OK)
		}
		steps := b.v.Steps()
		wants(t, "Task", s.Task(0), api.OK)
		if l := s.Records(a0); len(l) != 4-3*gens || s.Free() != 6-gens || gens == 0 && b.v.Steps() != steps {
			t.Errorf("%d gens: %v, %d free, %d steps", gens, l, s.Free(), b.v.Steps()-steps)
		}
		wants(t, "Create", s.Create(api.Spec{Name: "b", Parts: 1}), api.ErrFull)
	}
}

// Where a pool has told all its stamps, nothing is put that needs another segment; when it is opened anew there are stamps again.
func TestLastStamp(t *testing.T) {
	v := sized(t, 2+16*40)
	wants(t, "Format", store.Format(v, 40), api.OK)
	s, e := store.Open(v, 40, 0)
	wants(t, "Open", e, api.OK)
	wants(t, "Create", s.Create(api.Spec{Name: "a", Parts: 1, Compact: true}), api.OK)
	value := strings.Repeat("v", 160)
	big := []api.Pair{{Key: "k", Value: value}, {Key: "l", Value: value}, {Key: "m", Value: value}} // a segment
	taken := 0
	for e == api.OK {
		if s.Free() < 6 {
			wants(t, "Task", s.Task(0), api.OK)
		}
		_, _, e = s.Append(a0, api.Record{}, big)
		taken++
	}
	wants(t, "Append", e, api.ErrPool)
	free, l := s.Free(), s.Records(a0)
	if taken < 60000 || free < 5 || len(l) < 9 {
		t.Fatalf("%d were taken, %d are free, %v", taken, free, l)
	}
	for range 3 { // nothing goes by keys, as there is no room for what is kept
		wants(t, "Task", s.Task(0), api.OK)
		if s.Free() != free || !slices.Equal(s.Records(a0), l) {
			t.Fatalf("%d free, %v", s.Free(), s.Records(a0))
		}
	}
	if _, e := s.Release(made(a0, "x"), 0); e != api.ErrPool || s.Released() != 0 || len(s.Pending()) != 0 {
		t.Errorf("%v, %d, %v", e, s.Released(), s.Pending())
	}
	for _, x := range []int{1, 40} {
		wants(t, "Commit", s.Commit(key("g", "a", 0), x), api.ErrPool)
	}
	wants(t, "Flush", s.Flush(), api.OK)
	s, e = store.Open(v, 40, 0)
	wants(t, "Open", e, api.OK)
	if !slices.Equal(s.Records(a0), l) {
		t.Errorf("%v, not %v", s.Records(a0), l)
	}
	wants(t, "Append", errorOf(s.Append(a0, api.Record{}, big)), api.OK)
}

// Promise 27.6: journals are written anew where that is worth it, and only those that have grown.
func TestJournalsAnew(t *testing.T) {
	b := opened(t, 12)
	b.create(api.Spec{Name: "a", Parts: 1})
	for i := range 45 { // three segments
		b.commit(key("g", "a", 0), i)
		b.task(0)
		if want := map[bool]int{true: 1, false: i/15 + 1}[i > 29]; b.s.Free() != 11-want {
			t.Fatalf("%d: %d free", i, b.s.Free())
		}
	}
	if b.m.disk.gens != [3]int{1, 2, 1} {
		t.Errorf("%v", b.m.disk.gens)
	}
	for i := range 20 {
		b.create(api.Spec{Name: "b", Parts: 1})
		b.delete("b")
		b.release(made(a0, "x"), i)
		b.task(0)
	}
	if g := b.m.disk.gens; g[0] < 2 || g[2] < 2 || b.m.met["sure by being written anew"] == 0 {
		t.Errorf("%v, %v", g, b.m.met)
	}
	b.crash(0)
}

// Promise 27.6: a journal is not written anew if its snapshot needs as many segments as it has, or more than are free.
func TestJournalsNotAnew(t *testing.T) {
	for _, c := range []struct{ keys, commits, free, gen int }{
		{45, 45, 9, 1}, {45, 46, 9, 2}, {45, 60, 9, 2}, {46, 46, 9, 1}, {46, 60, 9, 1}, {46, 61, 9, 2}, {60, 61, 9, 2}, {61, 61, 9, 1}, {60, 61, 4, 2}, {60, 61, 3, 1}, {60, 75, 3, 1}, {30, 31, 2, 2}, {30, 31, 1, 1}, {1, 31, 1, 2}, {1, 31, 0, 1},
	} {
		b := opened(t, 20)
		for i := range 4 {
			b.create(api.Spec{Name: string([]byte{byte('a' + i)}), Parts: 4})
		}
		for i := range c.commits {
			at := i % c.keys
			b.commit(key(string([]byte{byte('g' + at%8)}), string([]byte{byte('a' + at/8%4)}), at/32), i)
		}
		for i := 0; b.s.Free() > max(c.free, 2); i++ {
			b.append(a0, api.Record{}, api.Pair{Value: strings.Repeat("v", 200)}, api.Pair{Value: strings.Repeat("v", 200)})
		}
		for i := 0; b.s.Free() > c.free; i++ {
			b.release(made(a0, "x"), 0) // without room for the record, but for the first ones
			b.create(api.Spec{Name: "e", Parts: 1})
			b.delete("e")
		}
		b.task(0)
		if b.m.disk.gens[1] != c.gen {
			t.Errorf("%v: the gen %d", c, b.m.disk.gens[1])
		}
	}
}

// Promise 27.5: the number of a release counts for its record's room.
func TestGreatNumbers(t *testing.T) {
	h := hand(t, 7)
	h.entry(0)(h.catalog.Create(api.Spec{Name: "a", Parts: 2}))
	h.entry(2)(api.Frame{Kind: 3, Payload: laidChain(1<<40 - 2)}, api.OK)
	s := h.opened(0)
	wants(t, "Append", errorOf(s.Append(a0, api.Record{}, []api.Pair{{Value: "x"}})), api.OK)
	if at, e := s.Release(made(a0, "x"), 0); at != 1 || e != api.OK || s.Released() != 1<<40-1 {
		t.Fatalf("%d, %v", at, e)
	}
	for s.Free() > 2 {
		wants(t, "Append", errorOf(s.Append(a1, api.Record{}, slices.Repeat([]api.Pair{{Value: strings.Repeat("v", 200)}}, 2))), api.OK)
	}
	for range 12 {
		wants(t, "Append", errorOf(s.Append(a0, api.Record{}, []api.Pair{{Value: "x"}})), api.OK)
	}
	// a place is left: 7 bytes of the frame, 13 of the record beside its value
	before := text(s)
	if at, e := s.Release(made(a0, strings.Repeat("v", 33)), 0); at != 0 || e != api.ErrPool || text(s) != before || s.Free() != 2 {
		t.Fatalf("%d, %v", at, e)
	}
	if at, e := s.Release(made(a0, strings.Repeat("v", 32)), 0); at != 14 || e != api.OK || s.Released() != 1<<40 {
		t.Fatalf("%d, %v", at, e)
	}
	if at, e := s.Release(made(a0, "x"), 0); at != 0 || e != api.ErrArg {
		t.Fatalf("%d, %v", at, e)
	}
	if l := s.Records(a0); l[1].From != 1<<40-1 || l[14].From != 1<<40 {
		t.Errorf("%v", l)
	}
}

// errorOf is what Append came to.
func errorOf(_ int, _ bool, e api.Errno) api.Errno { return e }

// Rule R3: what is handed in may be changed, and what is told too.
func TestOwnMemory(t *testing.T) {
	b := opened(t, 8)
	b.create(api.Spec{Name: "a", Parts: 1})
	b.create(api.Spec{Name: "b", Parts: 1})
	l := []api.Pair{{Value: "x"}, {Key: "k", Value: "y"}}
	if _, _, e := b.s.Append(a0, api.Record{Producer: 4}, l); e != api.OK {
		t.Fatal(e)
	}
	clear(l)
	wants(t, "Commit", b.s.Commit(key("g", "a", 0), 1), api.OK)
	wants(t, "Flush", b.s.Flush(), api.OK)
	before := text(b.s)
	for range 2 {
		clear(b.s.Names())
		clear(b.s.Keys())
		clear(b.s.Records(a0))
		got, _, _ := b.s.Fetch(a0, 0, 2)
		if len(got) != 2 || got[1].Value != "y" {
			t.Errorf("%v", got)
		}
		clear(got)
		if after := text(b.s); after != before {
			t.Errorf("%s, not %s", after, before)
		}
	}
	h := hand(t, 6)
	h.entry(0)(h.catalog.Create(api.Spec{Name: "a", Parts: 1}))
	h.entry(2)(h.releases.Make(made(a0, "1")))
	s := h.opened(-1)
	clear(s.Pending())
	if l := s.Pending(); len(l) != 1 || l[0].Number != 1 {
		t.Errorf("%v", l)
	}
}

// Two stores on one disk have nothing of each other.
func TestTwoStores(t *testing.T) {
	d, e := disk.New(2 * (2 + 16*6))
	wants(t, "disk.New", e, api.OK)
	var s [2]*store.Store
	var v [2]*view.View
	for i := range v {
		v[i], e = view.New(d, i*(2+16*6), 2+16*6)
		wants(t, "view.New", e, api.OK)
		wants(t, "Format", store.Format(v[i], 6), api.OK)
		s[i], e = store.Open(v[i], 6, 0)
		wants(t, "Open", e, api.OK)
	}
	empty := text(s[1])
	wants(t, "Create", s[0].Create(api.Spec{Name: "a", Parts: 1}), api.OK)
	for {
		if _, _, e := s[0].Append(a0, api.Record{}, []api.Pair{{Value: strings.Repeat("x", 200)}}); e != api.OK {
			wants(t, "Append", e, api.ErrPool)
			break
		}
	}
	wants(t, "Flush", s[1].Flush(), api.OK)
	wants(t, "Crash", v[0].Crash(nil), api.OK)
	s[0], e = store.Open(v[0], 6, 0)
	wants(t, "Open", e, api.OK)
	s[1], e = store.Open(v[1], 6, 0)
	wants(t, "Open", e, api.OK)
	if text(s[0]) != empty || text(s[1]) != empty || s[1].Free() != 6 {
		t.Errorf("%s, %s", text(s[0]), text(s[1]))
	}
}
