package store_test

import (
	"fmt"
	"math/rand"
	"slices"
	"testing"

	"weighlock/api"
	"weighlock/catalog"
	"weighlock/offsets"
	"weighlock/record"
	"weighlock/release"
	"weighlock/store"
)

// late are ticks of records that are put behind a crash.
const late = 1 << 20

// kept are, at random, what stays of so many writes that wait: some of them whole, some torn, some not at all.
func kept(r *rand.Rand, waiting int) []api.Keep {
	var keeps []api.Keep
	most := r.Intn(5)
	for _, i := range r.Perm(waiting + 1) {
		if r.Intn(4) < most {
			keeps = append(keeps, api.Keep{Index: i, Bytes: []int{64, 64, 64, 63, 6, r.Intn(66)}[r.Intn(6)]})
		}
	}
	if r.Intn(2) == 0 {
		slices.SortFunc(keeps, func(a, b api.Keep) int { return a.Index - b.Index })
	}
	return keeps
}

// left is what may be left behind a crash: what was sure then, and what lay on the disk from then on till what was being done would have been done.
type left struct {
	sure  lain
	later []lain // the first of them is that which was sure
}

// left is what may be left behind so many steps.
func (m *model) left(steps int) left {
	var x left
	for _, f := range m.sure {
		if f.steps <= steps {
			x.sure, x.later = f.disk, nil
		}
		x.later = append(x.later, f.disk)
	}
	x.later = append(x.later, m.disk)
	return x
}

// frames are all frames that a log had from a number on, and how many of them were sure.
func (x left) frames(id, gen, from int) ([]api.Frame, int) {
	numbered := map[int]api.Frame{}
	for _, d := range x.later {
		for _, p := range d.log(id, gen).pieces {
			for i, f := range p.frames {
				numbered[p.base+i] = f
			}
		}
	}
	var l []api.Frame
	for n := from; ; n++ {
		f, there := numbered[n]
		if !there {
			return l, len(x.sure.log(id, gen).frames(from))
		}
		l = append(l, f)
	}
}

// each calls a function for all that the entries of a journal may tell, till it tells that this is it.
func (x left) each(i int, is func(l []api.Frame) bool) bool {
	for _, d := range x.later {
		l, sure := x.frames(i+1, d.gens[i], 0)
		for n := sure; n <= len(l); n++ {
			if is(l[:n]) {
				return true
			}
		}
	}
	return false
}

// fits tells whether a partition's records are those of a meta, and how many batches of those that were not sure are there.
func (x left) fits(b *both, p api.Place, c *catalog.Catalog) bool {
	m, e := c.Meta(p)
	if e != api.OK {
		return false
	}
	id, _ := c.Log(p)
	frames, sure := x.frames(id, m.Gen, m.Seq)
	got := slices.DeleteFunc(b.s.Records(p), func(r api.Record) bool { return r.Tick >= late })
	start, _, _ := b.s.Bounds(p)
	for n := sure; n <= len(frames) && start == m.Start; n++ {
		var l []api.Record
		for _, f := range frames[:n] {
			some, _ := record.Unpack(f.Payload)
			l = append(l, some...)
		}
		l = slices.DeleteFunc(l, func(r api.Record) bool { return r.Offset < m.Start })
		if slices.Equal(l, got) {
			return true
		}
	}
	return false
}

// checkTopics asks for topics and records that may be left.
func (x left) checkTopics(b *both) {
	b.Helper()
	var all []any
	found := x.each(0, func(l []api.Frame) bool {
		c := catalog.New()
		for _, f := range l {
			c.Apply(f)
		}
		if !slices.Equal(c.Names(), b.s.Names()) {
			return false
		}
		for _, name := range c.Names() {
			spec, _ := c.Spec(name)
			if got, _ := b.s.Spec(name); got != spec {
				return false
			}
			for part := range spec.Parts {
				p := api.Place{Topic: name, Part: part}
				if !x.fits(b, p, c) {
					m, _ := c.Meta(p)
					all = append(all, p, m)
					return false
				}
			}
		}
		return true
	})
	if !found {
		b.Fatalf("%v: %v", all, text(b.s))
	}
}

// checkOffsets asks for offsets that may be left.
func (x left) checkOffsets(b *both) {
	b.Helper()
	found := x.each(1, func(l []api.Frame) bool {
		t := offsets.New()
		for _, f := range l {
			t.Apply(f)
		}
		gone := func(k offsets.Key) bool { return !slices.Contains(b.s.Names(), k.Place.Topic) }
		keys := slices.DeleteFunc(t.Keys(), gone)
		if !slices.Equal(keys, b.s.Keys()) {
			return false
		}
		for _, k := range keys {
			want, _ := t.Get(k)
			if n, e := b.s.Offset(k); e == api.OK && n != want {
				return false
			}
		}
		return true
	})
	if !found {
		b.Fatal(text(b.s))
	}
}

// checkReleases asks for each release just once.
func (x left) checkReleases(b *both, made map[int]release.Release) {
	b.Helper()
	sure := release.New()
	for _, f := range x.sure.log(3, x.sure.gens[2]).frames(0) {
		sure.Apply(f)
	}
	found := x.each(2, func(l []api.Frame) bool {
		g := release.New()
		for _, f := range l {
			g.Apply(f)
		}
		return g.Last() == b.s.Released()
	})
	if !found {
		b.Fatalf("Released: %d", b.s.Released())
	}
	times := map[int]int{}
	for _, r := range b.s.Pending() {
		times[r.Number]++
	}
	for _, name := range b.s.Names() {
		for part := range 4 {
			for _, r := range b.s.Records(api.Place{Topic: name, Part: part}) {
				times[r.From]++
				if r.From > 0 && (api.Pair{Key: r.Key, Value: r.Value, Gone: r.Gone}) != made[r.From].Pair {
					b.Fatalf("%v, not %v", r, made[r.From])
				}
			}
		}
	}
	for n := 1; n <= b.s.Released(); n++ {
		if times[n] > 1 || n > sure.Done() && times[n] != 1 {
			b.Fatalf("the release %d of %d, done up to %d: %d times", n, b.s.Released(), sure.Done(), times[n])
		}
	}
}

// text is all that a store has.
func text(s *store.Store) string {
	all := fmt.Sprint(s.Released(), s.Pending())
	for _, name := range s.Names() {
		spec, _ := s.Spec(name)
		all += fmt.Sprint("\n", spec)
		for part := range spec.Parts {
			p := api.Place{Topic: name, Part: part}
			start, _, _ := s.Bounds(p)
			all += fmt.Sprint("\n", p, start, s.Records(p))
		}
	}
	for _, k := range s.Keys() {
		n, _ := s.Offset(k)
		all += fmt.Sprint("\n", k, n)
	}
	return all
}

// check asks for a store that may be left.
func (x left) check(b *both, made map[int]release.Release) {
	b.Helper()
	x.checkTopics(b)
	x.checkOffsets(b)
	x.checkReleases(b, made)
}

// trip lets the power go while it is opened, some times, and opens it then.
func trip(b *both, r *rand.Rand) {
	b.Helper()
	var e api.Errno
	for range r.Intn(3) {
		b.v.Fuse(r.Intn(30))
		_, e = store.Open(b.v, b.m.segs, late+r.Intn(9))
		if e != api.OK {
			wants(b.T, "Open", e, api.ErrPower)
		}
		wants(b.T, "Crash", b.v.Crash(kept(r, b.v.Waiting())), api.OK)
	}
	b.s, e = store.Open(b.v, b.m.segs, late+r.Intn(9))
	wants(b.T, "Open", e, api.OK)
}

// Promises 27.8, 27.9 and 27.10: the power goes at any step, and some writes stay, whole or torn.
func TestCrashes(t *testing.T) {
	counts := map[string]int{}
	for seed := range 700 {
		c := choosing(t, seed)
		c.hasty = true
		for range c.Intn(150) {
			c.do()
		}
		c.v.Fuse(c.Intn([]int{20, 100}[c.Intn(2)]))
		what := ""
		for !c.v.Dead() {
			what, _ = c.do()
			if what == "Open" || what == "Crash" { // these have no fuse any more, or would take one of their own
				c.v.Fuse(c.Intn(40))
			}
		}
		counts[what]++
		x := c.m.left(c.v.Steps())
		if len(x.later) > 2 {
			counts["flushed "+what]++
		}
		wants(t, "Crash", c.v.Crash(kept(c.Rand, c.v.Waiting())), api.OK)
		trip(c.both, c.Rand)
		x.check(c.both, c.made)
		before, pending := text(c.s), len(c.s.Pending())
		wants(t, "Crash", c.v.Crash(kept(c.Rand, c.v.Waiting())), api.OK)
		trip(c.both, c.Rand)
		if after := text(c.s); pending == 0 && after != before {
			t.Fatalf("%s, not %s", after, before)
		}
		x.check(c.both, c.made)
		if pending > 0 {
			counts["pending"]++
		}
	}
	for _, what := range []string{"Create", "Append", "Commit", "Delete", "flushed Delete", "Flush", "Release", "flushed Release", "Task", "flushed Task", "Open", "pending"} {
		if counts[what] == 0 {
			t.Errorf("the power never went in %s: %v", what, counts)
		}
	}
}
