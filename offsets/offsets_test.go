package offsets_test

import (
	"cmp"
	"encoding/binary"
	"maps"
	"math"
	"math/rand"
	"slices"
	"strings"
	"testing"

	"weighlock/api"
	"weighlock/offsets"
)

const mostOffset = 1<<20 + 1

// model is a table, by the words of the chapter.
type model map[offsets.Key]int

// at is a key.
func at(group, topic string, part int) offsets.Key {
	return offsets.Key{Group: group, Place: api.Place{Topic: topic, Part: part}}
}

// laid are numbers as chains, by the words of chapter 1.
func laid(numbers ...uint64) string {
	var b []byte
	for _, n := range numbers {
		b = binary.AppendUvarint(b, n)
	}
	return string(b)
}

// text is a text with its length.
func text(s string) string { return laid(uint64(len(s))) + s }

// The entries, by the words of the chapter.
func one(k offsets.Key, offset int) api.Frame {
	return api.Frame{Kind: 1, Payload: text(k.Group) + text(k.Place.Topic) + laid(uint64(k.Place.Part), uint64(offset))}
}
func two(name string) api.Frame { return api.Frame{Kind: 2, Payload: text(name)} }

// cutter cuts fields off bytes.
type cutter struct {
	s     string
	wrong bool
}

func (c *cutter) number() uint64 {
	v, n := binary.Uvarint([]byte(c.s))
	if n <= 0 || n > 1 && c.s[n-1] == 0 { // none, or one of too many bytes
		c.wrong = true
		return 0
	}
	c.s = c.s[n:]
	return v
}

func (c *cutter) text() string {
	n := c.number()
	if n > uint64(len(c.s)) {
		c.wrong = true
		return ""
	}
	s := c.s[:n]
	c.s = c.s[n:]
	return s
}

// right tells whether all was there, and nothing is left.
func (c *cutter) right() bool { return !c.wrong && c.s == "" }

// isName tells whether a group, or a topic, may have a name.
func isName(s string) bool {
	return len(s) >= 1 && len(s) <= 12 && strings.Trim(s, "abcdefghijklmnopqrstuvwxyz0123456789-") == ""
}

// groups are those that have an offset.
func (m model) groups() map[string]bool {
	l := map[string]bool{}
	for k := range m {
		l[k.Group] = true
	}
	return l
}

// hasRoom tells whether a group is there, or may come.
func (m model) hasRoom(group string) bool {
	l := m.groups()
	return l[group] || len(l) < 8
}

// apply turns the model by an entry; false, if that may not be.
func (m model) apply(f api.Frame) bool {
	c := cutter{s: f.Payload}
	switch f.Kind {
	case 1:
		group, topic, part, offset := c.text(), c.text(), c.number(), c.number()
		if !c.right() || !isName(group) || !isName(topic) || part > 3 || offset > mostOffset || !m.hasRoom(group) {
			return false
		}
		m[at(group, topic, int(part))] = int(offset)
	case 2:
		topic := c.text()
		if !c.right() || !isName(topic) {
			return false
		}
		maps.DeleteFunc(m, func(k offsets.Key, _ int) bool { return k.Place.Topic == topic })
	default:
		return false
	}
	return true
}

// commit is what Commit tells.
func (m model) commit(k offsets.Key, offset int) (api.Frame, api.Errno) {
	if !isName(k.Group) || !isName(k.Place.Topic) || k.Place.Part < 0 || k.Place.Part > 3 || offset < 0 || offset > mostOffset {
		return api.Frame{}, api.ErrArg
	}
	if !m.hasRoom(k.Group) {
		return api.Frame{}, api.ErrFull
	}
	return one(k, offset), api.OK
}

// keys are those that have an offset, in order.
func (m model) keys() []offsets.Key {
	return slices.SortedFunc(maps.Keys(m), func(a, b offsets.Key) int {
		if a.Group != b.Group {
			return strings.Compare(a.Group, b.Group)
		}
		if a.Place.Topic != b.Place.Topic {
			return strings.Compare(a.Place.Topic, b.Place.Topic)
		}
		return cmp.Compare(a.Place.Part, b.Place.Part)
	})
}

// snapshot is what Snapshot tells.
func (m model) snapshot() []api.Frame {
	var l []api.Frame
	for _, k := range m.keys() {
		l = append(l, one(k, m[k]))
	}
	return l
}

// The names that are asked for, of which some are there, and some may not be.
var (
	groups = []string{"g", "g-1", "b", "0", "-", "zzzzzzzzzzzz", "g2", "g3", "g4", "g5", "", "G", "zzzzzzzzzzzzz"}
	topics = []string{"a", "b", "g", "a-", "a1", "-", "", "A", "aaaaaaaaaaaaa"}
	parts  = []int{0, 1, 2, 3, 4, -1, 256, 1 << 32, math.MinInt, math.MaxInt}
)

// tells asks a table for all that it tells, but its snapshot.
func tells(t *testing.T, x *offsets.Table, m model) {
	t.Helper()
	if l := x.Keys(); !slices.Equal(l, m.keys()) {
		t.Fatalf("Keys: %v, not %v", l, m.keys())
	}
	if n := x.Groups(); n != len(m.groups()) {
		t.Fatalf("Groups: %d, not %d", n, len(m.groups()))
	}
	l := m.keys()
	for _, group := range groups {
		for _, topic := range topics {
			for _, part := range parts {
				l = append(l, at(group, topic, part))
			}
		}
	}
	for _, k := range l {
		want := api.OK
		if _, there := m[k]; !there {
			want = api.ErrNone
		}
		if n, e := x.Get(k); n != m[k] || e != want {
			t.Fatalf("Get(%v): %d, %v, not %d, %v", k, n, e, m[k], want)
		}
	}
}

// holds asks a table for all that it tells, and one to which its snapshot is applied as well.
func holds(t *testing.T, x *offsets.Table, m model) {
	t.Helper()
	tells(t, x, m)
	want := m.snapshot()
	y := offsets.New()
	for _, f := range x.Snapshot() {
		if e := y.Apply(f); e != api.OK {
			t.Fatalf("the entry %#v of the snapshot: %v", f, e)
		}
	}
	tells(t, y, m)
	for _, z := range []*offsets.Table{x, y} {
		if l := z.Snapshot(); !slices.Equal(l, want) {
			t.Fatalf("Snapshot: %#v, not %#v", l, want)
		}
	}
}

// applies applies an entry to a table and its model, and tells whether it may be.
func applies(t *testing.T, x *offsets.Table, m model, f api.Frame) bool {
	t.Helper()
	want := api.ErrForm
	if m.apply(f) {
		want = api.OK
	}
	if e := x.Apply(f); e != want {
		t.Fatalf("Apply(%d, %q): %v, not %v", f.Kind, f.Payload, e, want)
	}
	return want == api.OK
}

// turns applies an entry that may be.
func turns(t *testing.T, x *offsets.Table, m model, f api.Frame) {
	t.Helper()
	if !applies(t, x, m, f) {
		t.Fatalf("the entry %d, %q may not be", f.Kind, f.Payload)
	}
	holds(t, x, m)
}

// refuses asks that an entry may not be, and changes nothing.
func refuses(t *testing.T, x *offsets.Table, m model, f api.Frame) {
	t.Helper()
	if applies(t, x, m, f) {
		t.Fatalf("the entry %d, %q may be", f.Kind, f.Payload)
	}
	holds(t, x, m)
}

// commits asks for an entry that sets an offset, which turns nothing.
func commits(t *testing.T, x *offsets.Table, m model, k offsets.Key, offset int) (api.Frame, api.Errno) {
	t.Helper()
	wantF, wantE := m.commit(k, offset)
	f, e := x.Commit(k, offset)
	if f != wantF || e != wantE {
		t.Fatalf("Commit(%v, %d): %#v, %v, not %#v, %v", k, offset, f, e, wantF, wantE)
	}
	return f, e
}

// clears asks for an entry that lets a topic's offsets go.
func clears(t *testing.T, x *offsets.Table, name string) (api.Frame, api.Errno) {
	t.Helper()
	wantF, wantE := api.Frame{}, api.ErrArg
	if isName(name) {
		wantF, wantE = two(name), api.OK
	}
	f, e := x.Clear(name)
	if f != wantF || e != wantE {
		t.Fatalf("Clear(%q): %#v, %v, not %#v, %v", name, f, e, wantF, wantE)
	}
	return f, e
}

// expect asks for an error.
func expect(t *testing.T, e, want api.Errno) {
	t.Helper()
	if e != want {
		t.Errorf("%v, not %v", e, want)
	}
}

// sets sets an offset.
func sets(t *testing.T, x *offsets.Table, m model, k offsets.Key, offset int) {
	t.Helper()
	f, e := commits(t, x, m, k, offset)
	expect(t, e, api.OK)
	holds(t, x, m) // it is told, and not applied as yet
	turns(t, x, m, f)
}

// some is a table of offsets that three groups have of three topics; and its model.
func some(t *testing.T) (*offsets.Table, model) {
	t.Helper()
	x, m := offsets.New(), model{}
	for i, k := range []offsets.Key{at("g", "b", 2), at("g", "a", 0), at("g-1", "a", 3), at("g", "a", 3), at("b", "b", 1), at("g", "b", 1)} {
		sets(t, x, m, k, 300*i)
	}
	return x, m
}

// full is a table of as many groups as there may be, of which only "g" has more offsets than one; and its model.
func full(t *testing.T) (*offsets.Table, model) {
	t.Helper()
	x, m := some(t)
	for _, group := range []string{"g2", "g3", "g4", "g5", "0"} {
		sets(t, x, m, at(group, "a", 1), 5)
	}
	return x, m
}

// Promise 24.1: a table without offsets.
func TestNew(t *testing.T) {
	x := offsets.New()
	if x == nil {
		t.Fatal("New: nil")
	}
	if len(x.Keys()) != 0 || x.Groups() != 0 || len(x.Snapshot()) != 0 {
		t.Errorf("New: %v, %d, %v", x.Keys(), x.Groups(), x.Snapshot())
	}
	holds(t, x, model{})
	turns(t, x, model{}, two("a"))
	z, m := new(offsets.Table), model{}
	holds(t, z, m)
	turns(t, z, m, two("a"))
	sets(t, z, m, at("g", "a", 1), 5)
}

// The example of the chapter.
func TestExample(t *testing.T) {
	x := offsets.New()
	f, e := x.Commit(at("g", "a", 1), 5)
	if f != (api.Frame{Kind: 1, Payload: "\x01\x67\x01\x61\x01\x05"}) || e != api.OK {
		t.Errorf("Commit: %#v, %v", f, e)
	}
	expect(t, x.Apply(f), api.OK)
	if n, e := x.Get(at("g", "a", 1)); n != 5 || e != api.OK {
		t.Errorf("Get: %d, %v", n, e)
	}
}

// Promises 24.1 to 24.3: a table that is nil.
func TestNil(t *testing.T) {
	var x *offsets.Table
	for _, f := range []api.Frame{{}, one(at("g", "a", 1), 5), two("a")} {
		expect(t, x.Apply(f), api.ErrState)
	}
	for _, k := range []offsets.Key{{}, at("g", "a", 1)} {
		if f, e := x.Commit(k, 5); f != (api.Frame{}) || e != api.ErrState {
			t.Errorf("Commit: %v, %v", f, e)
		}
		if n, e := x.Get(k); n != 0 || e != api.ErrState {
			t.Errorf("Get: %d, %v", n, e)
		}
	}
	for _, name := range []string{"", "a"} {
		if f, e := x.Clear(name); f != (api.Frame{}) || e != api.ErrState {
			t.Errorf("Clear: %v, %v", f, e)
		}
	}
	if len(x.Keys()) != 0 || x.Groups() != 0 || len(x.Snapshot()) != 0 {
		t.Errorf("of nil: %v, %d, %v", x.Keys(), x.Groups(), x.Snapshot())
	}
}

// Promises 24.1, 24.2 and 24.4: offsets that may be, up to the edges, also below those that were.
func TestCommit(t *testing.T) {
	for _, offset := range []int{0, 1, 127, 128, 1 << 14, 1<<20 - 1, 1 << 20, mostOffset} {
		x, m := some(t)
		for _, k := range []offsets.Key{at("g", "a", 0), at("g", "a", 3), at("zzzzzzzzzzzz", "-", 1), at("-", "zzzzzzzzzzzz", 2), at("a", "g", 3)} {
			sets(t, x, m, k, offset)
			sets(t, x, m, k, mostOffset-offset)
			sets(t, x, m, k, offset)
			if n, e := x.Get(k); n != offset || e != api.OK {
				t.Errorf("Get(%v): %d, %v", k, n, e)
			}
		}
	}
}

// Promises 24.1 and 24.2: names, parts and offsets that may not be, each alone, and all.
func TestWrongCommit(t *testing.T) {
	for _, begin := range []func(*testing.T) (*offsets.Table, model){some, full} {
		x, m := begin(t)
		check := func(k offsets.Key, offset int) {
			t.Helper()
			_, e := commits(t, x, m, k, offset)
			expect(t, e, api.ErrArg)
			refuses(t, x, m, one(k, offset))
		}
		for _, name := range []string{"", "G", "g ", "g_", "g\x00", "zzzzzzzzzzzzz", strings.Repeat("a", 200)} {
			check(at(name, "a", 1), 5)
			check(at("g", name, 1), 5)
			check(at(name, name, -1), -1)
			check(at("new", name, 1), 5)
		}
		for _, part := range []int{4, 5, 128, 256, 257, 1 << 32, 1<<32 + 1, math.MaxInt, -1, -3, math.MinInt, math.MinInt + 1} {
			check(at("g", "a", part), 5)
			check(at("new", "a", part), 5)
		}
		for _, offset := range []int{mostOffset + 1, mostOffset + 2, 1 << 21, 1 << 32, 1<<32 + 1, 1 << 40, math.MaxInt, -1, -2, math.MinInt, math.MinInt + 5} {
			check(at("g", "a", 1), offset)
			check(at("new", "a", 1), offset)
		}
	}
}

// Promises 24.1 and 24.2: in a table that is full no group comes, till one has no offset any more.
func TestFull(t *testing.T) {
	x, m := full(t)
	if x.Groups() != 8 {
		t.Fatalf("Groups: %d", x.Groups())
	}
	isFull := func() {
		t.Helper()
		for _, k := range []offsets.Key{at("new", "a", 1), at("g1", "z", 0), at("g-", "b", 2), at("a", "a", 1)} {
			_, e := commits(t, x, m, k, 5)
			expect(t, e, api.ErrFull)
			refuses(t, x, m, one(k, 5))
		}
	}
	isFull()
	for _, group := range []string{"g", "g-1", "b", "g2", "g3", "g4", "g5", "0"} { // those that are there go on
		sets(t, x, m, at(group, "c", 2), 9)
		sets(t, x, m, at(group, "a", 3), 0)
	}
	isFull()
	turns(t, x, m, two("c"))
	isFull()
	turns(t, x, m, two("a")) // g and b have offsets of another topic yet
	if x.Groups() != 2 {
		t.Fatalf("Groups: %d", x.Groups())
	}
	sets(t, x, m, at("new", "a", 1), 5)
	turns(t, x, m, two("b"))
	turns(t, x, m, two("a"))
	if x.Groups() != 0 || len(x.Keys()) != 0 {
		t.Errorf("behind all: %d, %v", x.Groups(), x.Keys())
	}
	for _, group := range []string{"n0", "n1", "n2", "n3", "n4", "n5", "n6", "n7"} {
		sets(t, x, m, at(group, "a", 0), 1)
	}
	isFull()
}

// Promises 24.1, 24.2 and 24.4: a topic's offsets go, all of them, and no others.
func TestClear(t *testing.T) {
	for _, name := range []string{"a", "b", "g", "a-", "aa", "-", "zzzzzzzzzzzz", "0"} {
		x, m := some(t)
		f, e := clears(t, x, name)
		expect(t, e, api.OK)
		holds(t, x, m)
		turns(t, x, m, f)
		turns(t, x, m, f)
	}
	x, m := some(t)
	for _, name := range []string{"", "A", "a ", "a\x00", "zzzzzzzzzzzzz", strings.Repeat("a", 200)} {
		_, e := clears(t, x, name)
		expect(t, e, api.ErrArg)
		refuses(t, x, m, two(name))
	}
}

// Promise 24.1: entries that are cut off, or go on, or have chains of too many bytes.
func TestWrongBytes(t *testing.T) {
	x, m := some(t)
	for _, f := range []api.Frame{one(at("g", "log-1", 3), 300), two("log-1"), one(at("new", "a", 0), mostOffset)} {
		for i := range len(f.Payload) {
			refuses(t, x, m, api.Frame{Kind: f.Kind, Payload: f.Payload[:i]})
		}
		for _, behind := range []string{"\x00", "\x01", "\x80", "\xff", "a", f.Payload} {
			refuses(t, x, m, api.Frame{Kind: f.Kind, Payload: f.Payload + behind})
		}
	}
	for _, payload := range []string{"\x81\x00g\x01a\x01\x05", "\x01g\x81\x00a\x01\x05", "\x01g\x01a\x81\x00\x05", "\x01g\x01a\x01\x85\x00", "\x01g\x01a\x01" + strings.Repeat("\xff", 9) + "\x01", "\x01g\x01a\x01" + strings.Repeat("\xff", 10), "\xff\xff\xff\xff\xff\xff\xff\xff\xff\x01g", "\x01g\xff\xff\xff\xff\xff\xff\xff\xff\xff\x01"} {
		refuses(t, x, m, api.Frame{Kind: 1, Payload: payload})
	}
	for _, payload := range []string{"", "\x00", "\x81\x00a", "\x01A", "a", "\x02a", "\xff"} {
		refuses(t, x, m, api.Frame{Kind: 2, Payload: payload})
	}
}

// Promise 24.1: entries of kinds that there are not, or of the other one.
func TestWrongKinds(t *testing.T) {
	x, m := some(t)
	for _, kind := range []int{math.MinInt, -2, -1, 0, 3, 4, 255, 256, 257, 258, 1<<32 + 1, 1<<32 + 2, math.MaxInt} {
		for _, f := range []api.Frame{one(at("g", "a", 1), 5), two("a"), {}} {
			refuses(t, x, m, api.Frame{Kind: kind, Payload: f.Payload})
		}
	}
	refuses(t, x, m, api.Frame{Kind: 1, Payload: two("a").Payload})
	refuses(t, x, m, api.Frame{Kind: 2, Payload: one(at("g", "a", 1), 5).Payload})
}

// Promise 24.3: by rising groups, then topics, then parts.
func TestOrder(t *testing.T) {
	want := []offsets.Key{at("-", "z", 3), at("0", "a", 0), at("0", "a", 1), at("0", "a", 2), at("0", "a", 3), at("0", "a-", 0), at("0", "a0", 0), at("0", "aa", 0), at("0", "b", 0), at("00", "a", 1), at("a", "a", 0), at("a-", "-", 0), at("b", "-", 3), at("b", "a", 2)}
	r := rand.New(rand.NewSource(1))
	for range 20 {
		x, m := offsets.New(), model{}
		for _, i := range r.Perm(len(want)) {
			applies(t, x, m, one(want[i], i))
		}
		if l := x.Keys(); !slices.Equal(l, want) {
			t.Fatalf("Keys: %v, not %v", l, want)
		}
		for i, f := range x.Snapshot() {
			if f != one(want[i], i) {
				t.Fatalf("Snapshot: %#v at %d", f, i)
			}
		}
		holds(t, x, m)
	}
}

// Promise 24.5: what one group commits changes nothing of another one's offsets.
func TestGroupsApart(t *testing.T) {
	x, m := full(t)
	for _, group := range []string{"g", "b", "0"} {
		before := map[offsets.Key]int{}
		for _, k := range x.Keys() {
			if k.Group != group {
				before[k], _ = x.Get(k)
			}
		}
		for _, topic := range []string{"a", "b", "new", "g"} {
			for part := range 4 {
				sets(t, x, m, at(group, topic, part), 1000+part)
			}
		}
		for k, want := range before {
			if n, e := x.Get(k); n != want || e != api.OK {
				t.Errorf("Get(%v): %d, %v, not %d", k, n, e, want)
			}
		}
	}
}

// Rule R3: lists that are told share no memory.
func TestMemory(t *testing.T) {
	x, m := some(t)
	keys, frames := x.Keys(), x.Snapshot()
	clear(keys[:cap(keys)])
	clear(frames[:cap(frames)])
	holds(t, x, m)
}

// anyKey is a key that often may be, and any offset of it.
func anyKey(r *rand.Rand) (offsets.Key, int) {
	k := at(groups[r.Intn(10)], topics[r.Intn(6)], r.Intn(4))
	offset := r.Intn(mostOffset+1) >> r.Intn(21)
	switch r.Intn(24) {
	case 0:
		k.Group = groups[r.Intn(len(groups))]
	case 1:
		k.Place.Topic = topics[r.Intn(len(topics))]
	case 2:
		k.Place.Part = parts[r.Intn(len(parts))]
	case 3:
		offset = r.Intn(4*mostOffset) - mostOffset
	}
	return k, offset
}

// damaged is an entry a bit of which may be turned, or of which a byte may go, or come.
func damaged(r *rand.Rand, f api.Frame) api.Frame {
	s := []byte(f.Payload)
	at := r.Intn(len(s))
	switch r.Intn(12) {
	case 0:
		s[at] ^= 1 << r.Intn(8)
	case 1:
		s = slices.Delete(s, at, at+1)
	case 2:
		s = slices.Insert(s, at, byte(r.Intn(256)))
	case 3:
		s = append(s, byte(r.Intn(256)))
	case 4:
		f.Kind = r.Intn(5) - 1
	}
	return api.Frame{Kind: f.Kind, Payload: string(s)}
}

// Promises 24.1 to 24.5: whatever is asked for and applied, all is as the words say.
func TestAgainstTheWords(t *testing.T) {
	r := rand.New(rand.NewSource(2))
	errors, entries := map[api.Errno]int{}, map[bool]int{}
	for range 60 {
		x, m := offsets.New(), model{}
		for range 60 {
			k, offset := anyKey(r)
			f, e := commits(t, x, m, k, offset)
			if e == api.ErrFull || r.Intn(10) == 0 { // it may be applied all the same
				f = one(k, offset)
			}
			if r.Intn(12) == 0 {
				f, e = clears(t, x, topics[r.Intn(len(topics))])
			}
			errors[e]++
			if f.Payload != "" {
				entries[applies(t, x, m, damaged(r, f))]++
			}
			holds(t, x, m)
		}
	}
	for _, e := range []api.Errno{api.OK, api.ErrArg, api.ErrFull} {
		if errors[e] < 100 {
			t.Errorf("%v: %d times alone", e, errors[e])
		}
	}
	if min(entries[true], entries[false]) < 200 {
		t.Errorf("too few entries of a kind: %v", entries)
	}
}

// Promise 24.1: of entries that may be each one with one byte more, or another one.
func TestOneByte(t *testing.T) {
	may := map[bool]int{}
	for _, f := range []api.Frame{one(at("g", "a", 3), 300), one(at("new", "b", 0), mostOffset), two("a")} {
		for i := range len(f.Payload) + 1 {
			for b := range 256 {
				more := string([]byte{byte(b)})
				payloads := []string{f.Payload[:i] + more + f.Payload[i:]}
				if i < len(f.Payload) {
					payloads = append(payloads, f.Payload[:i]+more+f.Payload[i+1:])
				}
				for _, payload := range payloads {
					x, m := offsets.New(), model{}
					applies(t, x, m, one(at("g", "a", 1), 7))
					ok := applies(t, x, m, api.Frame{Kind: f.Kind, Payload: payload})
					if l := x.Snapshot(); !slices.Equal(l, m.snapshot()) {
						t.Fatalf("Snapshot behind %q: %#v, not %#v", payload, l, m.snapshot())
					}
					may[ok]++
				}
			}
		}
	}
	if min(may[true], may[false]) < 300 {
		t.Errorf("too few entries of a kind: %v", may)
	}
}
