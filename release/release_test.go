package release_test

import (
	"encoding/binary"
	"hash/fnv"
	"math"
	"math/rand"
	"runtime"
	"slices"
	"strings"
	"testing"
	"unsafe"

	"weighlock/api"
	"weighlock/release"
)

const (
	most       = 1 << 40 // the greatest number of a release
	mostOffset = 1 << 20
)

// laid are numbers as chains, by the words of chapter 1.
func laid(numbers ...uint64) string {
	var b []byte
	for _, n := range numbers {
		b = binary.AppendUvarint(b, n)
	}
	return string(b)
}

// text is a text with its length.
func text(s string) string { return laid(uint64(len(s))) + s }

// mark is a byte for a tombstone.
func mark(gone bool) string {
	if gone {
		return "\x01"
	}
	return "\x00"
}

// digest is a pair's, by the words of the chapter: the sum of chapter 2 goes by the name of FNV-1a.
func digest(p api.Pair) uint64 {
	h := fnv.New64a()
	h.Write([]byte(text(p.Key) + text(p.Value) + mark(p.Gone)))
	return h.Sum64()
}

// The entries, by the words of the chapter.
func one(r release.Release) api.Frame {
	sum := binary.BigEndian.AppendUint64(nil, digest(r.Pair))
	return api.Frame{Kind: 1, Payload: laid(uint64(r.Number), uint64(r.Rule), uint64(r.Label)) +
		text(r.Source.Topic) + laid(uint64(r.Source.Part), uint64(r.Offset)) + text(r.Target.Topic) + laid(uint64(r.Target.Part)) +
		string(sum) + mark(r.Pair.Gone) + text(r.Pair.Key) + text(r.Pair.Value)}
}
func two(n uint64) api.Frame   { return api.Frame{Kind: 2, Payload: laid(n)} }
func three(n uint64) api.Frame { return api.Frame{Kind: 3, Payload: laid(n)} }

// cutter cuts fields off bytes.
type cutter struct {
	s     string
	wrong bool
}

func (c *cutter) number() uint64 {
	v, n := binary.Uvarint([]byte(c.s))
	if n <= 0 || n > 1 && c.s[n-1] == 0 { // none, or one of too many bytes
		c.wrong = true
		return 0
	}
	c.s = c.s[n:]
	return v
}

// upTo is a number that may be at most so great.
func (c *cutter) upTo(most uint64) int {
	n := c.number()
	c.wrong = c.wrong || n > most
	return int(n)
}

func (c *cutter) bytes(n uint64) string {
	if n > uint64(len(c.s)) {
		c.wrong = true
		return ""
	}
	s := c.s[:n]
	c.s = c.s[n:]
	return s
}

func (c *cutter) text() string { return c.bytes(c.number()) }

// right tells whether all was there, and nothing is left.
func (c *cutter) right() bool { return !c.wrong && c.s == "" }

// isName tells whether a topic may have a name.
func isName(s string) bool {
	return len(s) >= 1 && len(s) <= 12 && strings.Trim(s, "abcdefghijklmnopqrstuvwxyz0123456789-") == ""
}

// isPlace tells whether a place may be.
func isPlace(p api.Place) bool { return isName(p.Topic) && p.Part >= 0 && p.Part <= 3 }

// isPair tells whether a pair may be.
func isPair(p api.Pair) bool {
	return len(p.Key) <= 32 && len(p.Value) <= 200 && (!p.Gone || p.Key != "" && p.Value == "")
}

// isRelease tells whether all of a release may be, but its number.
func isRelease(r release.Release) bool {
	return r.Rule >= 0 && r.Rule <= 15 && r.Label >= 0 && r.Label <= 5 && isPlace(r.Source) && r.Offset >= 0 && r.Offset <= mostOffset && isPlace(r.Target) && isPair(r.Pair)
}

// model is a log of releases, by the words of the chapter.
type model struct {
	all        []release.Release // that came, but for those that had come ahead of an entry of kind 3
	last, done int
}

// apply turns the model by an entry; false, if that may not be.
func (m *model) apply(f api.Frame) bool {
	c := cutter{s: f.Payload}
	switch f.Kind {
	case 1:
		r := release.Release{Number: c.upTo(most), Rule: c.upTo(15), Label: c.upTo(5)}
		r.Source.Topic, r.Source.Part, r.Offset = c.text(), c.upTo(3), c.upTo(mostOffset)
		r.Target.Topic, r.Target.Part = c.text(), c.upTo(3)
		sum, gone := c.bytes(8), c.bytes(1)
		r.Pair = api.Pair{Key: c.text(), Value: c.text(), Gone: gone == "\x01"}
		if !c.right() || gone > "\x01" || r.Number != m.last+1 || !isRelease(r) || sum != string(binary.BigEndian.AppendUint64(nil, digest(r.Pair))) {
			return false
		}
		m.all, m.last = append(m.all, r), r.Number
	case 2:
		n := c.number()
		if !c.right() || n < uint64(m.done) || n > uint64(m.last) {
			return false
		}
		m.done = int(n)
	case 3:
		n := c.number()
		if !c.right() || n < uint64(m.last) || n > most || m.done < m.last {
			return false
		}
		m.last, m.done = int(n), int(n)
	default:
		return false
	}
	return true
}

// pending are the pending releases.
func (m *model) pending() []release.Release {
	var l []release.Release
	for _, r := range m.all {
		if r.Number > m.done {
			l = append(l, r)
		}
	}
	return l
}

// create is what Make tells.
func (m *model) create(r release.Release) (api.Frame, api.Errno) {
	if !isRelease(r) || m.last == most {
		return api.Frame{}, api.ErrArg
	}
	r.Number = m.last + 1
	return one(r), api.OK
}

// finish is what Finish tells.
func (m *model) finish(n int) (api.Frame, api.Errno) {
	if n < m.done || n > m.last {
		return api.Frame{}, api.ErrArg
	}
	return two(uint64(n)), api.OK
}

// snapshot is what Snapshot tells.
func (m *model) snapshot() []api.Frame {
	l := []api.Frame{three(uint64(m.done))}
	for _, r := range m.pending() {
		l = append(l, one(r))
	}
	return l
}

// tells asks a log for all that it tells.
func tells(t *testing.T, g *release.Log, m *model) {
	t.Helper()
	if g.Last() != m.last || g.Done() != m.done {
		t.Fatalf("Last, Done: %d, %d, not %d, %d", g.Last(), g.Done(), m.last, m.done)
	}
	if l := g.Pending(); !slices.Equal(l, m.pending()) {
		t.Fatalf("Pending: %v, not %v", l, m.pending())
	}
	if l := g.Snapshot(); !slices.Equal(l, m.snapshot()) {
		t.Fatalf("Snapshot: %#v, not %#v", l, m.snapshot())
	}
}

// holds asks a log for all that it tells, and one to which its snapshot is applied as well.
func holds(t *testing.T, g *release.Log, m *model) {
	t.Helper()
	tells(t, g, m)
	h := release.New()
	for _, f := range g.Snapshot() {
		if e := h.Apply(f); e != api.OK {
			t.Fatalf("the entry %#v of the snapshot: %v", f, e)
		}
	}
	tells(t, h, m)
}

// applies applies an entry to a log and its model, and tells whether it may be.
func applies(t *testing.T, g *release.Log, m *model, f api.Frame) bool {
	t.Helper()
	want := api.ErrForm
	if m.apply(f) {
		want = api.OK
	}
	if e := g.Apply(f); e != want {
		t.Fatalf("Apply(%d, %q): %v, not %v", f.Kind, f.Payload, e, want)
	}
	return want == api.OK
}

// turns applies an entry that may be.
func turns(t *testing.T, g *release.Log, m *model, f api.Frame) {
	t.Helper()
	if !applies(t, g, m, f) {
		t.Fatalf("the entry %d, %q may not be", f.Kind, f.Payload)
	}
	holds(t, g, m)
}

// refuses asks that an entry may not be, and changes nothing.
func refuses(t *testing.T, g *release.Log, m *model, f api.Frame) {
	t.Helper()
	if applies(t, g, m, f) {
		t.Fatalf("the entry %d, %q may be", f.Kind, f.Payload)
	}
	holds(t, g, m)
}

// makes asks for the entry of the next release, which turns nothing.
func makes(t *testing.T, g *release.Log, m *model, r release.Release) (api.Frame, api.Errno) {
	t.Helper()
	wantF, wantE := m.create(r)
	f, e := g.Make(r)
	if f != wantF || e != wantE {
		t.Fatalf("Make(%v): %#v, %v, not %#v, %v", r, f, e, wantF, wantE)
	}
	holds(t, g, m)
	return f, e
}

// finishes asks for the entry by which releases are done, which turns nothing.
func finishes(t *testing.T, g *release.Log, m *model, n int) (api.Frame, api.Errno) {
	t.Helper()
	wantF, wantE := m.finish(n)
	f, e := g.Finish(n)
	if f != wantF || e != wantE {
		t.Fatalf("Finish(%d): %#v, %v, not %#v, %v", n, f, e, wantF, wantE)
	}
	holds(t, g, m)
	return f, e
}

// expect asks for an error.
func expect(t *testing.T, e, want api.Errno) {
	t.Helper()
	if e != want {
		t.Errorf("%v, not %v", e, want)
	}
}

// comes makes a release, and applies it.
func comes(t *testing.T, g *release.Log, m *model, r release.Release) {
	t.Helper()
	f, e := makes(t, g, m, r)
	expect(t, e, api.OK)
	turns(t, g, m, f)
}

// goes finishes the releases up to a number.
func goes(t *testing.T, g *release.Log, m *model, n int) {
	t.Helper()
	f, e := finishes(t, g, m, n)
	expect(t, e, api.OK)
	turns(t, g, m, f)
}

// put is a release that may be, with its least numbers.
func put(key, value string) release.Release {
	return release.Release{Source: api.Place{Topic: "a"}, Target: api.Place{Topic: "b"}, Pair: api.Pair{Key: key, Value: value}}
}

// longest is a release that may be, with its greatest numbers and longest texts.
func longest() release.Release {
	return release.Release{Rule: 15, Label: 5, Source: api.Place{Topic: "zzzzzzzzzzzz", Part: 3}, Offset: mostOffset, Target: api.Place{Topic: "999999999999", Part: 3}, Pair: api.Pair{Key: strings.Repeat("k", 32), Value: strings.Repeat("v", 200)}}
}

// some is a log of five releases, of which two are done; and its model.
func some(t *testing.T) (*release.Log, *model) {
	t.Helper()
	g, m := release.New(), &model{}
	gone := put("k", "")
	gone.Pair.Gone = true
	for i, r := range []release.Release{put("a", "1"), longest(), put("", ""), gone, put("e", "5")} {
		r.Rule, r.Label = i, 5-i
		comes(t, g, m, r)
	}
	goes(t, g, m, 2)
	return g, m
}

// Promise 25.1: the digest of Key and Value with their lengths, and of the byte for a tombstone; of any pair, also of one that may not be.
func TestDigest(t *testing.T) {
	if d := release.Digest(api.Pair{}); d != digest(api.Pair{}) || d != 0xd94d12186c0f2fb7 {
		t.Errorf("of nothing: %x", d)
	}
	pairs := []api.Pair{{}, {Gone: true}, {Key: "a"}, {Key: "a", Gone: true}, {Value: "a"}, {Value: "a", Gone: true}, {Key: "ab", Value: "c"}, {Key: "a", Value: "bc"}, {Value: "abc"}, {Key: "abc"}, {Key: "\x01b", Value: "c"}, {Key: "a\x00", Value: ""}, {Key: "a", Value: "\x00"}, {Key: strings.Repeat("k", 127), Value: strings.Repeat("v", 128)}, {Key: strings.Repeat("k", 128), Value: strings.Repeat("v", 127)}, longest().Pair, {Key: strings.Repeat("\xff", 5000), Value: strings.Repeat("\x80", 70000), Gone: true}}
	seen := map[uint64]api.Pair{}
	for _, p := range pairs {
		d := release.Digest(p)
		if d != digest(p) {
			t.Errorf("Digest(%v): %x, not %x", p, d, digest(p))
		}
		if q, there := seen[d]; there {
			t.Errorf("%v and %v have one digest", p, q)
		}
		seen[d] = p
	}
}

// Promises 25.1 and 25.3: a log without releases.
func TestNew(t *testing.T) {
	for _, g := range []*release.Log{release.New(), new(release.Log)} {
		if g == nil {
			t.Fatal("New: nil")
		}
		if l := g.Snapshot(); len(g.Pending()) != 0 || g.Last() != 0 || g.Done() != 0 || len(l) != 1 || l[0] != (api.Frame{Kind: 3, Payload: "\x00"}) {
			t.Errorf("%v, %d, %d, %#v", g.Pending(), g.Last(), g.Done(), l)
		}
		m := &model{}
		holds(t, g, m)
		goes(t, g, m, 0)
		turns(t, g, m, three(0))
		comes(t, g, m, put("a", "b"))
	}
	g, h := release.New(), release.New()
	comes(t, g, &model{}, put("a", "b"))
	holds(t, h, &model{})
}

// The example of the chapter, and the bytes of an entry.
func TestExample(t *testing.T) {
	g := release.New()
	f, e := g.Make(release.Release{Rule: 3, Label: 1, Source: api.Place{Topic: "high", Part: 2}, Offset: 300, Target: api.Place{Topic: "low", Part: 1}, Pair: api.Pair{Key: "k", Value: "v"}})
	sum := string(binary.BigEndian.AppendUint64(nil, digest(api.Pair{Key: "k", Value: "v"})))
	if want := (api.Frame{Kind: 1, Payload: "\x01\x03\x01\x04high\x02\xac\x02\x03low\x01" + sum + "\x00\x01k\x01v"}); f != want || e != api.OK {
		t.Errorf("Make: %#v, %v, not %#v", f, e, want)
	}
	expect(t, g.Apply(f), api.OK)
	if g.Last() != 1 || g.Done() != 0 || len(g.Pending()) != 1 {
		t.Errorf("%d, %d, %v", g.Last(), g.Done(), g.Pending())
	}
	f, e = g.Finish(1)
	if want := (api.Frame{Kind: 2, Payload: "\x01"}); f != want || e != api.OK {
		t.Errorf("Finish: %#v, %v", f, e)
	}
	expect(t, g.Apply(f), api.OK)
	if g.Last() != 1 || g.Done() != 1 || len(g.Pending()) != 0 {
		t.Errorf("%d, %d, %v", g.Last(), g.Done(), g.Pending())
	}
}

// Promises 25.1 to 25.3: a log that is nil.
func TestNil(t *testing.T) {
	var g *release.Log
	r := put("a", "b")
	r.Number = 1
	for _, f := range []api.Frame{{}, one(r), two(0), three(0), three(5)} {
		expect(t, g.Apply(f), api.ErrState)
	}
	for _, x := range []release.Release{{}, r} {
		if f, e := g.Make(x); f != (api.Frame{}) || e != api.ErrState {
			t.Errorf("Make: %v, %v", f, e)
		}
	}
	for _, n := range []int{-1, 0, 1} {
		if f, e := g.Finish(n); f != (api.Frame{}) || e != api.ErrState {
			t.Errorf("Finish: %v, %v", f, e)
		}
	}
	if len(g.Pending()) != 0 || len(g.Snapshot()) != 0 || g.Last() != 0 || g.Done() != 0 {
		t.Errorf("of nil: %v, %v, %d, %d", g.Pending(), g.Snapshot(), g.Last(), g.Done())
	}
}

// with is a release that is changed.
func with(r release.Release, change func(r *release.Release)) release.Release {
	change(&r)
	return r
}

// Promises 25.2 and 25.4: releases that may be, up to the edges; the number that is handed in counts nothing.
func TestMake(t *testing.T) {
	var l []release.Release
	for _, r := range []release.Release{put("a", "b"), longest(), put("", "")} {
		for _, n := range []int{math.MinInt, -1, 0, 1, 2, 7, most, math.MaxInt} {
			l = append(l, with(r, func(r *release.Release) { r.Number = n }))
		}
		for rule := range 16 {
			l = append(l, with(r, func(r *release.Release) { r.Rule = rule }))
		}
		for label := range 6 {
			l = append(l, with(r, func(r *release.Release) { r.Label = label }))
		}
		for part := range 4 {
			l = append(l, with(r, func(r *release.Release) { r.Source.Part = part }), with(r, func(r *release.Release) { r.Target.Part = part }))
		}
		for _, offset := range []int{0, 1, 127, 128, 1 << 14, mostOffset - 1, mostOffset} {
			l = append(l, with(r, func(r *release.Release) { r.Offset = offset }))
		}
		for _, name := range []string{"a", "-", "0", "log-1", "abcdefghijkl"} {
			l = append(l, with(r, func(r *release.Release) { r.Source.Topic = name }), with(r, func(r *release.Release) { r.Target.Topic = name }), with(r, func(r *release.Release) { r.Source = r.Target }))
		}
		for _, p := range []api.Pair{{}, {Key: "k"}, {Key: "k", Gone: true}, {Value: "v"}, {Key: strings.Repeat("\x00", 32)}, {Value: strings.Repeat("\xff", 200)}, {Key: strings.Repeat("k", 32), Gone: true}, {Key: strings.Repeat("k", 31), Value: strings.Repeat("v", 127)}, {Value: strings.Repeat("v", 128)}} {
			l = append(l, with(r, func(r *release.Release) { r.Pair = p }))
		}
	}
	for _, r := range l {
		g, m := some(t)
		comes(t, g, m, r)
		r.Number = 6
		if pending := g.Pending(); len(pending) != 4 || pending[3] != r || g.Last() != 6 || g.Done() != 2 {
			t.Fatalf("Pending: %v, not %v behind all", pending, r)
		}
		comes(t, g, m, r) // the same once more is another one
	}
}

// Promises 25.1 and 25.2: what of a release may not be, each alone.
func TestWrongReleases(t *testing.T) {
	var l []release.Release
	wrong := func(change func(r *release.Release)) {
		l = append(l, with(put("a", "b"), change), with(longest(), change))
	}
	outside := func(most int) []int {
		return []int{-1, -2, math.MinInt, most + 1, most + 2, 2*most + 2, 1 << 32, 1<<32 + 1, 1 << 41, math.MaxInt}
	}
	for _, n := range outside(15) {
		wrong(func(r *release.Release) { r.Rule = n })
	}
	for _, n := range outside(5) {
		wrong(func(r *release.Release) { r.Label = n })
	}
	for _, n := range outside(3) {
		wrong(func(r *release.Release) { r.Source.Part = n })
		wrong(func(r *release.Release) { r.Target.Part = n })
	}
	for _, n := range outside(mostOffset) {
		wrong(func(r *release.Release) { r.Offset = n })
	}
	for _, name := range []string{"", "A", "a ", "a_b", "a\x00", "\xff", "abcdefghijklm", strings.Repeat("a", 200)} {
		wrong(func(r *release.Release) { r.Source.Topic = name })
		wrong(func(r *release.Release) { r.Target.Topic = name })
	}
	for _, p := range []api.Pair{{Gone: true}, {Value: "v", Gone: true}, {Key: "k", Value: "v", Gone: true}, {Key: strings.Repeat("k", 33)}, {Key: strings.Repeat("k", 33), Gone: true}, {Value: strings.Repeat("v", 201)}, {Key: strings.Repeat("k", 300)}, {Key: "k", Value: strings.Repeat("v", 700)}} {
		wrong(func(r *release.Release) { r.Pair = p })
	}
	g, m := some(t)
	for _, r := range append(l, release.Release{}) {
		_, e := makes(t, g, m, r)
		expect(t, e, api.ErrArg)
		r.Number = 6
		refuses(t, g, m, one(r))
	}
	comes(t, g, m, put("a", "b"))
}

// Promises 25.1 and 25.5: the number of a release's entry is one more than the last one's.
func TestNumbers(t *testing.T) {
	for _, r := range []release.Release{put("a", "b"), longest()} {
		g, m := some(t)
		for _, n := range []int{0, 1, 2, 3, 5, 7, 8, 127, 128, 262, 1<<32 + 6, most, most + 1, math.MaxInt, -1, math.MinInt, math.MinInt + 6} {
			refuses(t, g, m, one(with(r, func(r *release.Release) { r.Number = n })))
		}
		r.Number = 6
		turns(t, g, m, one(r))
		refuses(t, g, m, one(r)) // it is there already
		goes(t, g, m, 6)
		refuses(t, g, m, one(r)) // also if it is done
		for i, r := range g.Pending() {
			t.Errorf("%d: %v", i, r)
		}
		for n := 7; n < 140; n++ { // over the edge of a byte
			r.Number = n
			if !applies(t, g, m, one(r)) || g.Last() != n {
				t.Fatalf("Last: %d, not %d", g.Last(), n)
			}
		}
		holds(t, g, m)
	}
}

// Promises 25.1 and 25.2: behind the greatest number there is none.
func TestLastNumber(t *testing.T) {
	for ahead := range 3 {
		g, m := release.New(), &model{}
		turns(t, g, m, three(uint64(most-ahead)))
		r := longest()
		for range ahead {
			comes(t, g, m, r)
		}
		if g.Last() != most {
			t.Fatalf("Last: %d", g.Last())
		}
		for range 2 {
			_, e := makes(t, g, m, r)
			expect(t, e, api.ErrArg)
			refuses(t, g, m, one(with(r, func(r *release.Release) { r.Number = most + 1 })))
			refuses(t, g, m, three(most+1))
			goes(t, g, m, most)
		}
		turns(t, g, m, three(most))
	}
}

// Promises 25.1 to 25.3: up to each number that releases may be done to, and no further, nor back.
func TestFinish(t *testing.T) {
	for from := range 7 {
		for to := range 7 {
			g, m := release.New(), &model{}
			turns(t, g, m, three(200))
			for range 6 {
				comes(t, g, m, put("a", "b"))
			}
			goes(t, g, m, 200+from)
			f, e := finishes(t, g, m, 200+to)
			if to < from {
				expect(t, e, api.ErrArg)
				refuses(t, g, m, two(uint64(200+to)))
				continue
			}
			expect(t, e, api.OK)
			turns(t, g, m, f)
			turns(t, g, m, f) // once more is nothing more
			if l := g.Pending(); len(l) != 6-to || to < 6 && l[0].Number != 201+to || g.Done() != 200+to || g.Last() != 206 {
				t.Errorf("behind %d: %v", to, l)
			}
			comes(t, g, m, put("c", "d"))
		}
	}
	g, m := some(t)
	for _, n := range []int{1, 0, -1, -2, math.MinInt, 6, 7, 128, 1 << 32, 1<<32 + 3, most, math.MaxInt} {
		_, e := finishes(t, g, m, n)
		expect(t, e, api.ErrArg)
		refuses(t, g, m, two(uint64(n)))
	}
	h, m := release.New(), &model{}
	_, e := finishes(t, h, m, 1)
	expect(t, e, api.ErrArg)
	refuses(t, h, m, two(1))
}

// Promise 25.1: the entry of kind 3, if none is pending, from the last one's number on.
func TestBegin(t *testing.T) {
	g, m := some(t)
	for _, n := range []uint64{0, 1, 2, 3, 4, 5, 6, 9, most} {
		refuses(t, g, m, three(n)) // some are pending
	}
	goes(t, g, m, 4)
	refuses(t, g, m, three(5)) // one is
	goes(t, g, m, 5)
	for _, n := range []uint64{0, 1, 4, most + 1, most + 5, 1<<63 - 1, 1 << 63, 1<<64 - 1} {
		refuses(t, g, m, three(n))
	}
	for _, n := range []uint64{5, 6, 6, 127, 128, 1 << 32, most - 1} {
		turns(t, g, m, three(n))
		if g.Last() != int(n) || g.Done() != int(n) || len(g.Pending()) != 0 {
			t.Errorf("behind %d: %d, %d", n, g.Last(), g.Done())
		}
		refuses(t, g, m, three(n-1))
	}
	comes(t, g, m, put("a", "b"))
	if l := g.Pending(); len(l) != 1 || l[0].Number != most {
		t.Errorf("Pending: %v", l)
	}
}

// Promise 25.1: entries that are cut off, or go on, or have chains of too many bytes.
func TestWrongBytes(t *testing.T) {
	g, m := some(t)
	for _, f := range []api.Frame{one(with(put("a", "b"), func(r *release.Release) { r.Number = 6 })), one(with(longest(), func(r *release.Release) { r.Number = 6 })), one(with(put("", ""), func(r *release.Release) { r.Number = 6 })), two(3)} {
		for i := range len(f.Payload) {
			refuses(t, g, m, api.Frame{Kind: f.Kind, Payload: f.Payload[:i]})
		}
		for _, behind := range []string{"\x00", "\x01", "\x80", "\xff", "a", f.Payload} {
			refuses(t, g, m, api.Frame{Kind: f.Kind, Payload: f.Payload + behind})
		}
	}
	sum := string(binary.BigEndian.AppendUint64(nil, digest(api.Pair{Key: "k", Value: "v"})))
	fields := []string{"\x06", "\x03", "\x01", "\x01", "a", "\x02", "\x07", "\x01", "b", "\x01", sum, "\x00", "\x01", "k", "\x01", "v"}
	for i, field := range fields {
		if i == 4 || i == 8 || i == 10 || i == 11 || i == 13 || i == 15 { // no chain
			continue
		}
		for _, chain := range []string{string([]byte{field[0] | 0x80, 0}), string([]byte{field[0] | 0x80, 0x80, 0}), strings.Repeat("\xff", 9) + "\x01", strings.Repeat("\xff", 10), "", string([]byte{field[0] | 0x80}) + strings.Repeat("\x80", 8) + "\x01", string([]byte{field[0] | 0x80}) + strings.Repeat("\x80", 8) + "\x02"} {
			l := slices.Clone(fields)
			l[i] = chain
			refuses(t, g, m, api.Frame{Kind: 1, Payload: strings.Join(l, "")})
		}
	}
	for _, payload := range []string{"", "\x83\x00", "\x83\x80\x00", "\x83", "\x83" + strings.Repeat("\x80", 8) + "\x01", strings.Repeat("\xff", 9) + "\x01", "\xff"} {
		refuses(t, g, m, api.Frame{Kind: 2, Payload: payload})
	}
	turns(t, g, m, api.Frame{Kind: 1, Payload: strings.Join(fields, "")})
	goes(t, g, m, 6)
	for _, payload := range []string{"", "\x87\x00", "\x87\x80\x00", "\x87", "\x07\x00", "\x07\x07", "\x87" + strings.Repeat("\x80", 8) + "\x01", strings.Repeat("\xff", 9) + "\x01", "\xff"} {
		refuses(t, g, m, api.Frame{Kind: 3, Payload: payload})
	}
	turns(t, g, m, three(7))
}

// Promise 25.1: a digest that is another one's, and a byte for a tombstone that is none.
func TestWrongDigest(t *testing.T) {
	g, m := some(t)
	for _, p := range []api.Pair{{Key: "k", Value: "v"}, longest().Pair, {Key: "k", Gone: true}, {Key: "k"}} {
		f := one(with(put("", ""), func(r *release.Release) { r.Number, r.Pair = 6, p }))
		texts := text(p.Key) + text(p.Value)
		from := len(f.Payload) - len(texts) - 9 // the digest, the byte, and the texts
		for at := from; at < len(f.Payload); at++ {
			for bit := range 8 {
				b := []byte(f.Payload)
				b[at] ^= 1 << bit
				refuses(t, g, m, api.Frame{Kind: 1, Payload: string(b)})
			}
		}
		for b := 2; b < 256; b++ { // with the digest that such a byte would have, and with those of both that there are
			gone := string([]byte{byte(b)})
			sum := fnv.New64a()
			sum.Write([]byte(texts + gone))
			for _, d := range []uint64{sum.Sum64(), digest(api.Pair{Key: p.Key, Value: p.Value}), digest(api.Pair{Key: p.Key, Value: p.Value, Gone: true})} {
				refuses(t, g, m, api.Frame{Kind: 1, Payload: f.Payload[:from] + string(binary.BigEndian.AppendUint64(nil, d)) + gone + texts})
			}
		}
	}
}

// Promise 25.1: entries of kinds that there are not, or of another one.
func TestWrongKinds(t *testing.T) {
	g, m := some(t)
	r := with(put("a", "b"), func(r *release.Release) { r.Number = 6 })
	for _, kind := range []int{math.MinInt, -3, -2, -1, 0, 4, 5, 255, 256, 257, 258, 259, 1<<32 + 1, 1<<32 + 2, 1<<32 + 3, math.MaxInt} {
		for _, f := range []api.Frame{one(r), two(3), three(5), {}} {
			refuses(t, g, m, api.Frame{Kind: kind, Payload: f.Payload})
		}
	}
	for _, kind := range []int{2, 3} {
		refuses(t, g, m, api.Frame{Kind: kind, Payload: one(r).Payload})
	}
	refuses(t, g, m, api.Frame{Kind: 1, Payload: two(6).Payload})
	goes(t, g, m, 5)
	turns(t, g, m, api.Frame{Kind: 3, Payload: "\x08"}) // of kind 2 it may not be
	refuses(t, g, m, api.Frame{Kind: 2, Payload: "\x09"})
}

// Rule R3: lists that are told share no memory.
func TestMemory(t *testing.T) {
	g, m := some(t)
	pending, frames := g.Pending(), g.Snapshot()
	clear(pending[:cap(pending)])
	clear(frames[:cap(frames)])
	holds(t, g, m)
	pending = g.Pending()
	want := slices.Clone(pending)
	goes(t, g, m, 5)
	comes(t, g, m, longest())
	if !slices.Equal(pending, want) {
		t.Errorf("what was told is %v, not %v", pending, want)
	}
}

// Rule R3: what is kept has memory of its own, and what is told shares none with what is handed in.
func TestOwnMemory(t *testing.T) {
	fleeting := func(s string) (string, []byte) {
		b := []byte(s)
		return unsafe.String(&b[0], len(b)), b
	}
	r := with(put("key", "value"), func(r *release.Release) { r.Number = 1 })
	g, m := release.New(), &model{}
	payload, b := fleeting(one(r).Payload)
	expect(t, g.Apply(api.Frame{Kind: 1, Payload: payload}), api.OK)
	clear(b)
	m.apply(one(r))
	holds(t, g, m)
	var memory [][]byte
	x := put("", "")
	for _, s := range []*string{&x.Source.Topic, &x.Target.Topic, &x.Pair.Key, &x.Pair.Value} {
		*s, b = fleeting("abc")
		memory = append(memory, b)
	}
	want, _ := m.create(x)
	f, e := g.Make(x)
	for _, b := range memory {
		clear(b)
	}
	if f != want || e != api.OK {
		t.Errorf("Make: %#v, %v, not %#v", f, e, want)
	}
}

// held is how many bytes the program holds.
func held() int {
	runtime.GC()
	var m runtime.MemStats
	runtime.ReadMemStats(&m)
	return int(m.HeapAlloc)
}

// Rule R3: releases that are done are kept no longer, also where some are pending behind them.
func TestReleasesThatGo(t *testing.T) {
	const many = 20000
	for _, pending := range []int{0, 1} {
		g, before := release.New(), held()
		for n := range many {
			r := longest()
			r.Number = n + 1
			if e := g.Apply(one(r)); e != api.OK {
				t.Fatal(e)
			}
		}
		if more := held() - before; more < 200*many {
			t.Fatalf("%d bytes alone are held", more)
		}
		if e := g.Apply(two(uint64(many - pending))); e != api.OK || len(g.Pending()) != pending {
			t.Fatal(e)
		}
		if more := held() - before; more > 50*many {
			t.Errorf("%d bytes more are held", more)
		}
		runtime.KeepAlive(g)
	}
}

// names are topics, of which some may not be.
var names = []string{"a", "b", "log-1", "abcdefghijkl", "-", "9", "", "A", "abcdefghijklm"}

// anyText is a text of at most so many bytes.
func anyText(r *rand.Rand, most int) string {
	b := make([]byte, r.Intn(most+1))
	r.Read(b)
	return string(b)
}

// anyRelease is a release that often may be.
func anyRelease(r *rand.Rand) release.Release {
	x := release.Release{
		Number: r.Intn(9), Rule: r.Intn(16), Label: r.Intn(6),
		Source: api.Place{Topic: names[r.Intn(6)], Part: r.Intn(4)}, Offset: r.Intn(mostOffset+1) >> r.Intn(21),
		Target: api.Place{Topic: names[r.Intn(6)], Part: r.Intn(4)}, Pair: api.Pair{Key: anyText(r, 32), Value: anyText(r, 200)},
	}
	if r.Intn(3) == 0 {
		x.Pair.Value, x.Pair.Gone = "", x.Pair.Key != ""
	}
	switch r.Intn(40) {
	case 0:
		x.Rule = r.Intn(40) - 20
	case 1:
		x.Label = r.Intn(20) - 10
	case 2:
		x.Source = api.Place{Topic: names[r.Intn(len(names))], Part: r.Intn(12) - 4}
	case 3:
		x.Target = api.Place{Topic: names[r.Intn(len(names))], Part: r.Intn(12) - 4}
	case 4:
		x.Offset = r.Intn(4*mostOffset) - mostOffset
	case 5:
		x.Pair = api.Pair{Key: anyText(r, 40), Value: anyText(r, 250), Gone: r.Intn(2) == 0}
	}
	return x
}

// damaged is an entry a bit of which may be turned, or of which a byte may go, or come.
func damaged(r *rand.Rand, f api.Frame) api.Frame {
	s := []byte(f.Payload)
	at := r.Intn(len(s))
	switch r.Intn(16) {
	case 0:
		s[at] ^= 1 << r.Intn(8)
	case 1:
		s = slices.Delete(s, at, at+1)
	case 2:
		s = slices.Insert(s, at, byte(r.Intn(256)))
	case 3:
		s = append(s, byte(r.Intn(256)))
	case 4:
		f.Kind = r.Intn(6) - 1
	}
	return api.Frame{Kind: f.Kind, Payload: string(s)}
}

// Promises 25.1 to 25.5: whatever is asked for and applied, all is as the words say.
func TestAgainstTheWords(t *testing.T) {
	r := rand.New(rand.NewSource(1))
	errors, entries := map[api.Errno]int{}, map[bool]int{}
	for range 80 {
		g, m := release.New(), &model{}
		for range 60 {
			var f api.Frame
			e := api.OK
			switch r.Intn(6) {
			case 0, 1:
				f, e = finishes(t, g, m, m.done-1+r.Intn(m.last-m.done+4))
			case 2:
				f = three(uint64(max(0, m.last-1+r.Intn(200))))
			default:
				f, e = makes(t, g, m, anyRelease(r))
			}
			errors[e]++
			if e == api.OK {
				entries[applies(t, g, m, damaged(r, f))]++
			}
			holds(t, g, m)
		}
		numbers := 0
		for _, x := range m.all { // 25.5
			if x.Number <= numbers {
				t.Fatalf("%v", m.all)
			}
			numbers = x.Number
		}
	}
	if min(errors[api.OK], errors[api.ErrArg], entries[true], entries[false]) < 200 {
		t.Errorf("too few of a kind: %v, %v", errors, entries)
	}
}

// Promise 25.1: of entries that may be each one with one byte more, or another one, or one less.
func TestOneByte(t *testing.T) {
	may := map[bool]int{}
	check := func(kind int, payload string) {
		g, m := release.New(), &model{}
		for range 3 {
			applies(t, g, m, one(with(put("x", "y"), func(r *release.Release) { r.Number = m.last + 1 })))
		}
		if kind == 3 {
			applies(t, g, m, two(3))
		}
		may[applies(t, g, m, api.Frame{Kind: kind, Payload: payload})]++
		tells(t, g, m)
	}
	for _, f := range []api.Frame{one(release.Release{Number: 4, Rule: 3, Label: 1, Source: api.Place{Topic: "a", Part: 2}, Offset: 300, Target: api.Place{Topic: "b-1", Part: 1}, Pair: api.Pair{Key: "k", Value: "v"}}), one(with(put("k", ""), func(r *release.Release) { r.Number, r.Pair.Gone = 4, true })), two(2), three(300)} {
		for i := range len(f.Payload) + 1 {
			for b := range 256 {
				more := string([]byte{byte(b)})
				check(f.Kind, f.Payload[:i]+more+f.Payload[i:])
				if i < len(f.Payload) {
					check(f.Kind, f.Payload[:i]+more+f.Payload[i+1:])
				}
			}
			if i < len(f.Payload) {
				check(f.Kind, f.Payload[:i]+f.Payload[i+1:])
			}
		}
	}
	if min(may[true], may[false]) < 200 {
		t.Errorf("too few entries of a kind: %v", may)
	}
}
