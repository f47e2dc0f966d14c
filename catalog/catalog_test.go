package catalog_test

import (
	"encoding/binary"
	"maps"
	"math"
	"math/rand"
	"slices"
	"strings"
	"testing"

	"weighlock/api"
	"weighlock/catalog"
	"weighlock/dedup"
)

const (
	mostGen    = 1<<32 - 1
	most       = 1 << 40
	mostOffset = 1<<20 + 1 // of a partition's next record
	noTable    = "\x00"    // the bytes of a table without producers
)

// made is a topic that is there.
type made struct {
	slot  int
	spec  api.Spec
	metas []catalog.Meta
}

// model is a catalog, by the words of the chapter.
type model struct {
	topics map[string]made
	count  int
}

// newModel is the model of a catalog without topics.
func newModel() *model { return &model{topics: map[string]made{}} }

// laid are numbers as chains, by the words of chapter 1.
func laid(numbers ...uint64) string {
	var b []byte
	for _, n := range numbers {
		b = binary.AppendUvarint(b, n)
	}
	return string(b)
}

// text is a text with its length.
func text(s string) string { return laid(uint64(len(s))) + s }

// bytes are a topic's, by the words of chapter 22.
func bytes(s api.Spec) string {
	last := "\x00"
	if s.Compact {
		last = "\x01"
	}
	return text(s.Name) + laid(uint64(s.Parts), uint64(s.Age), uint64(s.Size)) + last
}

// The entries, by the words of the chapter.
func one(slot, gen int, s api.Spec) api.Frame {
	return api.Frame{Kind: 1, Payload: laid(uint64(slot), uint64(gen)) + bytes(s)}
}
func two(name string) api.Frame { return api.Frame{Kind: 2, Payload: text(name)} }
func three(p api.Place, m catalog.Meta) api.Frame {
	return api.Frame{Kind: 3, Payload: text(p.Topic) + laid(uint64(p.Part), uint64(m.Gen), uint64(m.Seq), uint64(m.Start), uint64(m.Next)) + text(m.Table)}
}
func four(n int) api.Frame { return api.Frame{Kind: 4, Payload: laid(uint64(n))} }

// cutter cuts fields off bytes.
type cutter struct {
	s     string
	wrong bool
}

func (c *cutter) number() uint64 {
	v, n := binary.Uvarint([]byte(c.s))
	if n <= 0 || n > 1 && c.s[n-1] == 0 { // none, or one of too many bytes
		c.wrong = true
		return 0
	}
	c.s = c.s[n:]
	return v
}

func (c *cutter) text() string {
	n := c.number()
	if n > uint64(len(c.s)) {
		c.wrong = true
		return ""
	}
	s := c.s[:n]
	c.s = c.s[n:]
	return s
}

// right tells whether all was there, and nothing is left.
func (c *cutter) right() bool { return !c.wrong && c.s == "" }

// isName tells whether a topic may have a name.
func isName(s string) bool {
	return len(s) >= 1 && len(s) <= 12 && strings.Trim(s, "abcdefghijklmnopqrstuvwxyz0123456789-") == ""
}

// isTopic tells whether a topic may be.
func isTopic(s api.Spec) bool {
	return isName(s.Name) && s.Parts >= 1 && s.Parts <= 4 && s.Age >= 0 && s.Age <= most && s.Size >= 0 && s.Size <= most
}

// isTable tells whether bytes are a whole table of producers, by the words of chapter 18.
func isTable(s string) bool {
	c := cutter{s: s}
	many, ahead := c.number(), uint64(0)
	if many > 16 {
		return false
	}
	for range many {
		producer, seq, n, offset := c.number(), c.number(), c.number(), c.number()
		if producer <= ahead || producer > most || seq > most || n < 1 || n > 8 || offset > 1<<20 {
			return false
		}
		ahead = producer
	}
	return c.right()
}

// isMeta tells whether a partition may have a meta.
func isMeta(m catalog.Meta) bool {
	return m.Gen >= 1 && m.Gen <= mostGen && m.Seq >= 0 && m.Seq <= most && m.Start >= 0 && m.Start <= m.Next && m.Next <= mostOffset && isTable(m.Table)
}

// has tells whether a partition is there.
func (m *model) has(p api.Place) bool {
	return p.Part >= 0 && p.Part < len(m.topics[p.Topic].metas)
}

// taken tells whether a slot is.
func (m *model) taken(slot int) bool {
	for _, x := range m.topics {
		if x.slot == slot {
			return true
		}
	}
	return false
}

// apply turns the model by an entry; false, if that may not be.
func (m *model) apply(f api.Frame) bool {
	c := cutter{s: f.Payload}
	switch f.Kind {
	case 1:
		slot, gen, s := c.number(), c.number(), api.Spec{Name: c.text()}
		parts, age, size, last := c.number(), c.number(), c.number(), c.number()
		_, there := m.topics[s.Name]
		if !c.right() || slot > 7 || m.taken(int(slot)) || gen < 1 || gen > mostGen || !isName(s.Name) || there || parts < 1 || parts > 4 || age > most || size > most || last > 1 {
			return false
		}
		s.Parts, s.Age, s.Size, s.Compact = int(parts), int(age), int(size), last == 1
		x := made{slot: int(slot), spec: s}
		for range parts {
			x.metas = append(x.metas, catalog.Meta{Gen: int(gen), Table: noTable})
		}
		m.topics[s.Name], m.count = x, max(m.count, int(gen))
	case 2:
		name := c.text()
		if _, there := m.topics[name]; !c.right() || !there {
			return false
		}
		delete(m.topics, name)
	case 3:
		name, part, gen, seq, start, next, table := c.text(), c.number(), c.number(), c.number(), c.number(), c.number(), c.text()
		if !c.right() || part >= uint64(len(m.topics[name].metas)) || start > next || next > mostOffset || gen < 1 || gen > mostGen || seq > most || !isTable(table) {
			return false
		}
		m.topics[name].metas[part] = catalog.Meta{Gen: int(gen), Seq: int(seq), Start: int(start), Next: int(next), Table: table}
		m.count = max(m.count, int(gen))
	case 4:
		n := c.number()
		if !c.right() || n < uint64(m.count) || n > mostGen {
			return false
		}
		m.count = int(n)
	default:
		return false
	}
	return true
}

// create is what Create tells.
func (m *model) create(s api.Spec) (api.Frame, api.Errno) {
	if !isTopic(s) {
		return api.Frame{}, api.ErrArg
	}
	if _, there := m.topics[s.Name]; there {
		return api.Frame{}, api.ErrSame
	}
	for slot := range 8 {
		if !m.taken(slot) && m.count < mostGen {
			return one(slot, m.count+1, s), api.OK
		}
	}
	return api.Frame{}, api.ErrFull
}

// remove is what Delete tells.
func (m *model) remove(name string) (api.Frame, api.Errno) {
	if _, there := m.topics[name]; !there {
		return api.Frame{}, api.ErrNone
	}
	return two(name), api.OK
}

// put is what Put tells.
func (m *model) put(p api.Place, x catalog.Meta) (api.Frame, api.Errno) {
	if !m.has(p) {
		return api.Frame{}, api.ErrNone
	}
	if !isMeta(x) {
		return api.Frame{}, api.ErrArg
	}
	return three(p, x), api.OK
}

// names are the topics' names.
func (m *model) names() []string { return slices.Sorted(maps.Keys(m.topics)) }

// snapshot is what Snapshot tells.
func (m *model) snapshot() []api.Frame {
	var l []api.Frame
	for _, name := range m.names() {
		x := m.topics[name]
		l = append(l, one(x.slot, x.metas[0].Gen, x.spec))
		for part, meta := range x.metas {
			l = append(l, three(api.Place{Topic: name, Part: part}, meta))
		}
	}
	return append(l, four(m.count))
}

// asked are names of topics, of which some are there, and some may not be.
var asked = []string{"", "a", "b", "log-1", "A", "a ", "abcdefghijklm", "x0", "x1", "x2", "x3", "x4", "x5", "x6", "x7", "x8"}

// tells asks a catalog for all that it tells, but its snapshot.
func tells(t *testing.T, c *catalog.Catalog, m *model) {
	t.Helper()
	if l := c.Names(); !slices.Equal(l, m.names()) {
		t.Fatalf("Names: %v, not %v", l, m.names())
	}
	if n := c.Count(); n != m.count {
		t.Fatalf("Count: %d, not %d", n, m.count)
	}
	for _, name := range append(m.names(), asked...) {
		x, there := m.topics[name]
		want := api.OK
		if !there {
			want = api.ErrNone
		}
		if s, e := c.Spec(name); s != x.spec || e != want {
			t.Fatalf("Spec(%q): %v, %v, not %v, %v", name, s, e, x.spec, want)
		}
		for _, part := range []int{math.MinInt, -4, -1, 0, 1, 2, 3, 4, 5, 256, 1 << 32, math.MaxInt} {
			tellsPlace(t, c, m, api.Place{Topic: name, Part: part})
		}
	}
}

// tellsPlace asks a catalog for a partition.
func tellsPlace(t *testing.T, c *catalog.Catalog, m *model, p api.Place) {
	t.Helper()
	var meta catalog.Meta
	log, want := 0, api.ErrNone
	if m.has(p) {
		x := m.topics[p.Topic]
		meta, log, want = x.metas[p.Part], 4+4*x.slot+p.Part, api.OK
	}
	if x, e := c.Meta(p); x != meta || e != want {
		t.Fatalf("Meta(%v): %v, %v, not %v, %v", p, x, e, meta, want)
	}
	if n, e := c.Log(p); n != log || e != want {
		t.Fatalf("Log(%v): %d, %v, not %d, %v", p, n, e, log, want)
	}
}

// holds asks a catalog for all that it tells, and one to which its snapshot is applied as well.
func holds(t *testing.T, c *catalog.Catalog, m *model) {
	t.Helper()
	tells(t, c, m)
	want := m.snapshot()
	if l := c.Snapshot(); !slices.Equal(l, want) {
		t.Fatalf("Snapshot: %#v, not %#v", l, want)
	}
	d := catalog.New()
	for i, f := range c.Snapshot() {
		if e := d.Apply(f); e != api.OK {
			t.Fatalf("the entry %d of the snapshot %#v: %v", i, want, e)
		}
	}
	tells(t, d, m)
	if l := d.Snapshot(); !slices.Equal(l, want) {
		t.Fatalf("Snapshot of the snapshot: %#v, not %#v", l, want)
	}
}

// applies applies an entry to a catalog and its model, and tells whether it may be.
func applies(t *testing.T, c *catalog.Catalog, m *model, f api.Frame) bool {
	t.Helper()
	want := api.ErrForm
	if m.apply(f) {
		want = api.OK
	}
	if e := c.Apply(f); e != want {
		t.Fatalf("Apply(%d, %q): %v, not %v", f.Kind, f.Payload, e, want)
	}
	return want == api.OK
}

// turns applies an entry that may be.
func turns(t *testing.T, c *catalog.Catalog, m *model, f api.Frame) {
	t.Helper()
	if !applies(t, c, m, f) {
		t.Fatalf("the entry %d, %q may not be", f.Kind, f.Payload)
	}
	holds(t, c, m)
}

// refuses asks that an entry may not be, and changes nothing.
func refuses(t *testing.T, c *catalog.Catalog, m *model, f api.Frame) {
	t.Helper()
	if applies(t, c, m, f) {
		t.Fatalf("the entry %d, %q may be", f.Kind, f.Payload)
	}
	holds(t, c, m)
}

// told holds an entry that a catalog tells against the one that it should.
func told(t *testing.T, what string, f api.Frame, e api.Errno, wantF api.Frame, wantE api.Errno) {
	t.Helper()
	if f != wantF || e != wantE {
		t.Fatalf("%s: %#v, %v, not %#v, %v", what, f, e, wantF, wantE)
	}
}

// creates asks for an entry that makes a topic, which turns nothing.
func creates(t *testing.T, c *catalog.Catalog, m *model, s api.Spec) (api.Frame, api.Errno) {
	t.Helper()
	wantF, wantE := m.create(s)
	f, e := c.Create(s)
	told(t, "Create", f, e, wantF, wantE)
	return f, e
}

// removes asks for an entry that lets a topic go.
func removes(t *testing.T, c *catalog.Catalog, m *model, name string) (api.Frame, api.Errno) {
	t.Helper()
	wantF, wantE := m.remove(name)
	f, e := c.Delete(name)
	told(t, "Delete", f, e, wantF, wantE)
	return f, e
}

// puts asks for an entry that sets a meta.
func puts(t *testing.T, c *catalog.Catalog, m *model, p api.Place, x catalog.Meta) (api.Frame, api.Errno) {
	t.Helper()
	wantF, wantE := m.put(p, x)
	f, e := c.Put(p, x)
	told(t, "Put", f, e, wantF, wantE)
	return f, e
}

// expect asks for an error.
func expect(t *testing.T, e, want api.Errno) {
	t.Helper()
	if e != want {
		t.Errorf("%v, not %v", e, want)
	}
}

// makes makes a topic.
func makes(t *testing.T, c *catalog.Catalog, m *model, s api.Spec) {
	t.Helper()
	f, e := creates(t, c, m, s)
	expect(t, e, api.OK)
	turns(t, c, m, f)
}

// table is a table as bytes, of so many producers with the longest numbers that may be.
func table(t *testing.T, many int) string {
	t.Helper()
	d := dedup.New()
	for i := range many {
		if e := d.Note(most-i, most, 8, 1<<20); e != api.OK {
			t.Fatal(e)
		}
	}
	return d.Encode()
}

// some is a catalog of three topics, one of them with metas that were put; and its model.
func some(t *testing.T) (*catalog.Catalog, *model) {
	t.Helper()
	c, m := catalog.New(), newModel()
	for _, s := range []api.Spec{{Name: "log-1", Parts: 4, Age: 7, Size: most, Compact: true}, {Name: "b", Parts: 1, Age: most}, {Name: "a", Parts: 2, Size: 300}} {
		makes(t, c, m, s)
	}
	for part, x := range []catalog.Meta{{Gen: 9, Table: noTable}, {Gen: 2, Seq: most, Start: 5, Next: mostOffset, Table: table(t, 16)}, {Gen: 8, Start: 3, Next: 3, Table: table(t, 1)}} {
		f, e := puts(t, c, m, api.Place{Topic: "log-1", Part: part}, x)
		expect(t, e, api.OK)
		turns(t, c, m, f)
	}
	return c, m
}

// Promise 23.1: a catalog without topics.
func TestNew(t *testing.T) {
	c := catalog.New()
	if c == nil {
		t.Fatal("New: nil")
	}
	if l := c.Snapshot(); len(c.Names()) != 0 || c.Count() != 0 || len(l) != 1 || l[0] != (api.Frame{Kind: 4, Payload: "\x00"}) {
		t.Errorf("New: %v, %d, %#v", c.Names(), c.Count(), l)
	}
	holds(t, c, newModel())
	holds(t, new(catalog.Catalog), newModel())
	z, m := new(catalog.Catalog), newModel()
	makes(t, z, m, api.Spec{Name: "a", Parts: 4})
}

// The example of the chapter.
func TestExample(t *testing.T) {
	c := catalog.New()
	f, e := c.Create(api.Spec{Name: "a", Parts: 2})
	told(t, "Create", f, e, api.Frame{Kind: 1, Payload: "\x00\x01\x01a\x02\x00\x00\x00"}, api.OK)
	expect(t, c.Apply(f), api.OK)
	for part := range 2 {
		p := api.Place{Topic: "a", Part: part}
		if n, e := c.Log(p); n != 4+part || e != api.OK {
			t.Errorf("Log(%v): %d, %v", p, n, e)
		}
		if m, e := c.Meta(p); m != (catalog.Meta{Gen: 1, Table: "\x00"}) || e != api.OK {
			t.Errorf("Meta(%v): %v, %v", p, m, e)
		}
	}
}

// Promises 23.1 to 23.3: a catalog that is nil.
func TestNil(t *testing.T) {
	var c *catalog.Catalog
	a := api.Place{Topic: "a"}
	for _, f := range []api.Frame{{}, one(0, 1, api.Spec{Name: "a", Parts: 1}), two("a"), four(1)} {
		expect(t, c.Apply(f), api.ErrState)
	}
	for _, s := range []api.Spec{{}, {Name: "a", Parts: 1}} {
		f, e := c.Create(s)
		told(t, "Create", f, e, api.Frame{}, api.ErrState)
	}
	for _, name := range []string{"", "a"} {
		f, e := c.Delete(name)
		told(t, "Delete", f, e, api.Frame{}, api.ErrState)
		if s, e := c.Spec(name); s != (api.Spec{}) || e != api.ErrState {
			t.Errorf("Spec: %v, %v", s, e)
		}
	}
	for _, x := range []catalog.Meta{{}, {Gen: 1, Table: noTable}} {
		f, e := c.Put(a, x)
		told(t, "Put", f, e, api.Frame{}, api.ErrState)
	}
	if x, e := c.Meta(a); x != (catalog.Meta{}) || e != api.ErrState {
		t.Errorf("Meta: %v, %v", x, e)
	}
	if n, e := c.Log(a); n != 0 || e != api.ErrState {
		t.Errorf("Log: %d, %v", n, e)
	}
	if len(c.Snapshot()) != 0 || len(c.Names()) != 0 || c.Count() != 0 {
		t.Errorf("of nil: %v, %v, %d", c.Snapshot(), c.Names(), c.Count())
	}
}

// Promise 23.1: a topic is made in the slot that is told, with the gen that is told, which may be below the count.
func TestMake(t *testing.T) {
	for slot := range 8 {
		for _, gen := range []int{1, 2, 127, 128, 1 << 31, mostGen - 1, mostGen} {
			c, m := catalog.New(), newModel()
			turns(t, c, m, one(slot, gen, api.Spec{Name: "a", Parts: 4, Age: 1, Size: 2, Compact: true}))
			turns(t, c, m, one(7-slot, 1, api.Spec{Name: "b", Parts: 3}))
			if n, e := c.Log(api.Place{Topic: "a", Part: 3}); n != 4*slot+7 || e != api.OK || c.Count() != gen {
				t.Errorf("in the slot %d: the log %d, %v, the count %d", slot, n, e, c.Count())
			}
		}
	}
}

// Promise 23.1: topics that may not be made.
func TestWrongMake(t *testing.T) {
	c, m := some(t)
	z := api.Spec{Name: "z", Parts: 2, Age: 3, Size: 4, Compact: true}
	whole := one(3, 5, z)
	for i := range len(whole.Payload) {
		refuses(t, c, m, api.Frame{Kind: 1, Payload: whole.Payload[:i]})
	}
	for _, slot := range []int{0, 1, 2, 8, 9, 255, 256, 256 + 3, 1 << 32, 1<<32 + 3, math.MaxInt, -1, -5, math.MinInt, math.MinInt + 3} {
		refuses(t, c, m, one(slot, 5, z))
	}
	for _, gen := range []int{0, mostGen + 1, mostGen + 2, 1<<33 + 1, most, math.MaxInt, -1, math.MinInt, math.MinInt + 1} {
		refuses(t, c, m, one(3, gen, z))
	}
	for _, s := range []api.Spec{{Name: "a", Parts: 2, Size: 300}, {Name: "b", Parts: 4}, {Name: "log-1", Parts: 1}, {Name: "", Parts: 1}, {Name: "Z", Parts: 1}, {Name: "z"}, {Name: "z", Parts: 5}, {Name: "z", Parts: 1, Age: most + 1}, {Name: "z", Parts: 1, Size: most + 1}, {Name: "zzzzzzzzzzzzz", Parts: 1}} {
		refuses(t, c, m, one(3, 5, s))
	}
	refuses(t, c, m, api.Frame{Kind: 1, Payload: whole.Payload + "\x00"})
	refuses(t, c, m, api.Frame{Kind: 1, Payload: whole.Payload + whole.Payload})
	refuses(t, c, m, api.Frame{Kind: 1, Payload: "\x83\x00" + whole.Payload[1:]})
	refuses(t, c, m, api.Frame{Kind: 1, Payload: "\x03\x85\x00" + whole.Payload[2:]})
	turns(t, c, m, whole)
	refuses(t, c, m, whole)
}

// Promise 23.1: a topic that is gone, whose slot and name are free again, while the count stays.
func TestDrop(t *testing.T) {
	c, m := some(t)
	for _, payload := range []string{"", "\x00", "\x01", "\x01z", "\x01A", "a", "\x02a", "\x01a\x00", "\x01a\x01a", "\x81\x00a", "\x03log", "\x04log-", "\x05log-1\x05", "\xff", strings.Repeat("\xff", 12)} {
		refuses(t, c, m, api.Frame{Kind: 2, Payload: payload})
	}
	turns(t, c, m, two("log-1"))
	refuses(t, c, m, two("log-1"))
	if c.Count() != 9 {
		t.Errorf("the count: %d", c.Count())
	}
	makes(t, c, m, api.Spec{Name: "log-1", Parts: 2})
	if x, e := c.Meta(api.Place{Topic: "log-1", Part: 1}); x != (catalog.Meta{Gen: 10, Table: noTable}) || e != api.OK {
		t.Errorf("the meta of a topic that is made again: %v, %v", x, e)
	}
	for _, name := range []string{"b", "a", "log-1"} {
		turns(t, c, m, two(name))
	}
	if len(c.Names()) != 0 || c.Count() != 10 {
		t.Errorf("behind all: %v, %d", c.Names(), c.Count())
	}
}

// wrongMetas are metas that may not be, each for one reason alone.
func wrongMetas(t *testing.T) []catalog.Meta {
	t.Helper()
	right := catalog.Meta{Gen: 1, Seq: 2, Start: 3, Next: 4, Table: table(t, 2)}
	var l []catalog.Meta
	add := func(turn func(x *catalog.Meta)) {
		x := right
		turn(&x)
		l = append(l, x)
	}
	for _, n := range []int{0, -1, math.MinInt, math.MinInt + 1, mostGen + 1, mostGen + 2, most, math.MaxInt} {
		add(func(x *catalog.Meta) { x.Gen = n })
	}
	for _, n := range []int{-1, math.MinInt, most + 1, 2 * most, math.MaxInt} {
		add(func(x *catalog.Meta) { x.Seq = n })
	}
	for _, n := range []int{-1, math.MinInt, 5, 6, mostOffset, math.MaxInt} {
		add(func(x *catalog.Meta) { x.Start = n })
	}
	for _, n := range []int{-1, math.MinInt, 0, 2, mostOffset + 1, 1 << 32, math.MaxInt} {
		add(func(x *catalog.Meta) { x.Next = n })
	}
	add(func(x *catalog.Meta) { x.Start, x.Next = -2, -1 })
	add(func(x *catalog.Meta) { x.Start, x.Next = mostOffset+1, mostOffset+1 })
	for _, s := range []string{"", "\x01", "\x00\x00", right.Table[:len(right.Table)-1], right.Table + "\x00", "\x01\x00\x00\x01\x00", "\x01\x01\x00\x00\x00", "\x01\x01\x00\x09\x00", "\x80\x00", "\xff", "\x11" + table(t, 16)[1:], strings.Repeat("\x01", 800)} {
		add(func(x *catalog.Meta) { x.Table = s })
	}
	return l
}

// rightMetas are metas that may be, up to the edges.
func rightMetas(t *testing.T) []catalog.Meta {
	t.Helper()
	return []catalog.Meta{
		{Gen: 1, Table: noTable}, {Gen: mostGen, Seq: most, Start: mostOffset, Next: mostOffset, Table: table(t, 16)},
		{Gen: 3, Seq: 1, Next: mostOffset, Table: table(t, 1)}, {Gen: 2, Start: 7, Next: 7, Table: "\x01\x01\x00\x01\x00"},
		{Gen: 128, Seq: most - 1, Start: mostOffset - 1, Next: mostOffset - 1, Table: table(t, 15)},
	}
}

// Promises 23.1, 23.2 and 23.4: metas that may be, of any partition, whatever they were.
func TestPut(t *testing.T) {
	for _, x := range rightMetas(t) {
		c, m := some(t)
		for _, p := range []api.Place{{Topic: "b"}, {Topic: "a"}, {Topic: "a", Part: 1}, {Topic: "log-1", Part: 3}, {Topic: "log-1"}} {
			f, e := puts(t, c, m, p, x)
			expect(t, e, api.OK)
			holds(t, c, m) // it is told, and not applied as yet
			turns(t, c, m, f)
			turns(t, c, m, f)
			if got, _ := c.Meta(p); got != x || c.Count() != max(9, x.Gen) {
				t.Errorf("Meta(%v): %v, not %v; the count %d", p, got, x, c.Count())
			}
		}
	}
}

// Promises 23.1 and 23.2: metas that may not be, and partitions that are not there.
func TestWrongPut(t *testing.T) {
	c, m := some(t)
	for _, x := range wrongMetas(t) {
		if isMeta(x) {
			t.Fatalf("the meta %v may be", x)
		}
		for _, p := range []api.Place{{Topic: "b"}, {Topic: "log-1", Part: 1}} {
			_, e := puts(t, c, m, p, x)
			expect(t, e, api.ErrArg)
			refuses(t, c, m, three(p, x))
		}
	}
	for _, p := range []api.Place{{}, {Topic: "z"}, {Topic: "A"}, {Topic: "b", Part: 1}, {Topic: "a", Part: 2}, {Topic: "log-1", Part: 4}, {Topic: "b", Part: -1}, {Topic: "b", Part: math.MinInt}, {Topic: "b", Part: math.MaxInt}, {Topic: "b", Part: 1 << 32}} {
		for _, x := range append(rightMetas(t), wrongMetas(t)...) {
			_, e := puts(t, c, m, p, x)
			expect(t, e, api.ErrNone)
			refuses(t, c, m, three(p, x))
		}
	}
	holds(t, c, m)
}

// Promise 23.1: bytes of metas that are cut off, or go on.
func TestWrongBytesOfPut(t *testing.T) {
	c, m := some(t)
	whole := three(api.Place{Topic: "a", Part: 1}, catalog.Meta{Gen: 300, Seq: 2, Start: 3, Next: 400, Table: table(t, 3)})
	for i := range len(whole.Payload) {
		refuses(t, c, m, api.Frame{Kind: 3, Payload: whole.Payload[:i]})
	}
	for _, behind := range []string{"\x00", "\x80", "\xff", "a", whole.Payload} {
		refuses(t, c, m, api.Frame{Kind: 3, Payload: whole.Payload + behind})
	}
	for _, payload := range []string{"\x81\x00a\x01\x07\x03\x05\x09\x01\x00", "\x01a\x81\x00\x07\x03\x05\x09\x01\x00", "\x01a\x01\x87\x00\x03\x05\x09\x01\x00", "\x01a\x01\x07\x83\x00\x05\x09\x01\x00", "\x01a\x01\x07\x03\x85\x00\x09\x01\x00", "\x01a\x01\x07\x03\x05\x89\x00\x01\x00", "\x01a\x01\x07\x03\x05\x09\x81\x00\x00"} {
		refuses(t, c, m, api.Frame{Kind: 3, Payload: payload})
	}
	turns(t, c, m, whole)
	turns(t, c, m, api.Frame{Kind: 3, Payload: "\x01a\x01\x07\x03\x05\x09\x01\x00"})
}

// Promise 23.1: the count goes up alone, up to the greatest gen.
func TestCount(t *testing.T) {
	c, m := some(t)
	for _, n := range []int{0, 1, 8, mostGen + 1, mostGen + 10, 1<<33 + 9, most, math.MaxInt, -1, math.MinInt, math.MinInt + 9} {
		refuses(t, c, m, four(n))
	}
	for _, payload := range []string{"", "\x89", "\x89\x00", "\x09\x00", "\x09\x09", strings.Repeat("\xff", 9) + "\x01", strings.Repeat("\xff", 10)} {
		refuses(t, c, m, api.Frame{Kind: 4, Payload: payload})
	}
	for _, n := range []int{9, 9, 10, 300, mostGen - 1} {
		turns(t, c, m, four(n))
		refuses(t, c, m, four(n-1))
	}
	makes(t, c, m, api.Spec{Name: "last", Parts: 1}) // its gen is the greatest
	if x, e := c.Meta(api.Place{Topic: "last"}); x.Gen != mostGen || e != api.OK || c.Count() != mostGen {
		t.Errorf("the last gen: %v, %v", x, e)
	}
	turns(t, c, m, four(mostGen))
	_, e := creates(t, c, m, api.Spec{Name: "more", Parts: 1})
	expect(t, e, api.ErrFull)
}

// Promise 23.1: entries of kinds that there are not.
func TestWrongKinds(t *testing.T) {
	c, m := some(t)
	for _, kind := range []int{math.MinInt, -1, 0, 5, 6, 255, 256, 257, 258, 259, 260, 1<<32 + 1, math.MaxInt} {
		for _, f := range []api.Frame{one(3, 5, api.Spec{Name: "z", Parts: 1}), two("a"), three(api.Place{Topic: "a"}, catalog.Meta{Gen: 1, Table: noTable}), four(20), {}} {
			refuses(t, c, m, api.Frame{Kind: kind, Payload: f.Payload})
		}
	}
	for kind := 1; kind <= 4; kind++ {
		for _, f := range []api.Frame{one(3, 5, api.Spec{Name: "z", Parts: 1}), two("a"), three(api.Place{Topic: "a"}, catalog.Meta{Gen: 1, Table: noTable}), four(20)} {
			if kind != f.Kind {
				refuses(t, c, m, api.Frame{Kind: kind, Payload: f.Payload})
			}
		}
	}
}

// Promises 23.2 and 23.4: the lowest free slot, and the gen above the count; what is told turns nothing.
func TestCreate(t *testing.T) {
	c, m := catalog.New(), newModel()
	for _, name := range []string{"x7", "x3", "x1", "x0", "x4", "x6", "x2", "x5"} {
		creates(t, c, m, api.Spec{Name: name, Parts: 1})
		holds(t, c, m)
		makes(t, c, m, api.Spec{Name: name, Parts: 1 + len(m.topics)%4, Compact: name == "x1"})
	}
	_, e := creates(t, c, m, api.Spec{Name: "x8", Parts: 1})
	expect(t, e, api.ErrFull)
	for _, l := range [][]string{{"x1"}, {"x7"}, {"x5"}, {"x3", "x6"}, {"x5", "x4", "x0"}} {
		for _, name := range l {
			f, e := removes(t, c, m, name)
			expect(t, e, api.OK)
			holds(t, c, m)
			turns(t, c, m, f)
		}
		for _, name := range l {
			makes(t, c, m, api.Spec{Name: name, Parts: 4})
		}
	}
}

// Promise 23.2: topics that are not made, by the first reason.
func TestWrongCreate(t *testing.T) {
	c, m := some(t)
	check := func(s api.Spec, want api.Errno) {
		t.Helper()
		_, e := creates(t, c, m, s)
		expect(t, e, want)
	}
	wrong := []api.Spec{{}, {Name: "a"}, {Name: "z"}, {Parts: 1}, {Name: "z", Parts: 5}, {Name: "a", Parts: -1}, {Name: "Z", Parts: 1}, {Name: "z", Parts: 1, Age: -1}, {Name: "b", Parts: 1, Age: most + 1}, {Name: "z", Parts: 1, Size: -1}, {Name: "z", Parts: 1, Size: most + 1}, {Name: "zzzzzzzzzzzzz", Parts: 1}}
	for _, s := range wrong {
		check(s, api.ErrArg)
	}
	check(api.Spec{Name: "a", Parts: 1}, api.ErrSame)
	check(api.Spec{Name: "z", Parts: 1}, api.OK)
	for _, name := range []string{"x0", "x1", "x2", "x3", "x4"} {
		makes(t, c, m, api.Spec{Name: name, Parts: 1})
	}
	for _, s := range wrong { // now that all slots are taken
		check(s, api.ErrArg)
	}
	check(api.Spec{Name: "a", Parts: 1}, api.ErrSame)
	check(api.Spec{Name: "z", Parts: 1}, api.ErrFull)
	turns(t, c, m, two("x1"))
	check(api.Spec{Name: "z", Parts: 1}, api.OK)
	turns(t, c, m, four(mostGen)) // now that there is no gen
	check(api.Spec{Name: "z", Parts: 5}, api.ErrArg)
	check(api.Spec{Name: "a", Parts: 1}, api.ErrSame)
	check(api.Spec{Name: "z", Parts: 1}, api.ErrFull)
	holds(t, c, m)
}

// Promise 23.2: topics that are not there don't go.
func TestWrongDelete(t *testing.T) {
	c, m := some(t)
	for _, name := range []string{"", "z", "A", "log", "log-", "log-11", "abcdefghijklm", "\x00"} {
		_, e := removes(t, c, m, name)
		expect(t, e, api.ErrNone)
	}
	holds(t, c, m)
}

// Promise 23.3: the entries one behind the other, by rising names, not by slots.
func TestSnapshot(t *testing.T) {
	c, _ := some(t)
	want := []api.Frame{
		{Kind: 1, Payload: "\x02\x03\x01a\x02\x00\xac\x02\x00"},
		{Kind: 3, Payload: "\x01a\x00\x03\x00\x00\x00\x01\x00"},
		{Kind: 3, Payload: "\x01a\x01\x03\x00\x00\x00\x01\x00"},
		{Kind: 1, Payload: "\x01\x02\x01b\x01\x80\x80\x80\x80\x80\x20\x00\x00"},
		{Kind: 3, Payload: "\x01b\x00\x02\x00\x00\x00\x01\x00"},
		{Kind: 1, Payload: "\x00\x09\x05log-1\x04\x07\x80\x80\x80\x80\x80\x20\x01"},
		{Kind: 3, Payload: "\x05log-1\x00\x09\x00\x00\x00\x01\x00"},
		three(api.Place{Topic: "log-1", Part: 1}, catalog.Meta{Gen: 2, Seq: most, Start: 5, Next: mostOffset, Table: table(t, 16)}),
		three(api.Place{Topic: "log-1", Part: 2}, catalog.Meta{Gen: 8, Start: 3, Next: 3, Table: table(t, 1)}),
		{Kind: 3, Payload: "\x05log-1\x03\x01\x00\x00\x00\x01\x00"},
		{Kind: 4, Payload: "\x09"},
	}
	if l := c.Snapshot(); !slices.Equal(l, want) {
		t.Errorf("Snapshot: %#v, not %#v", l, want)
	}
}

// Promise 23.5: of as many partitions as there may be the logs are unlike.
func TestLogs(t *testing.T) {
	c, m := catalog.New(), newModel()
	for i := range 8 {
		makes(t, c, m, api.Spec{Name: "x" + string(rune('7'-i)), Parts: 4})
	}
	seen := map[int]bool{}
	for i := range 8 {
		for part := range 4 {
			n, e := c.Log(api.Place{Topic: "x" + string(rune('0'+i)), Part: part})
			if e != api.OK || n < 4 || n > 35 || seen[n] {
				t.Errorf("the log of x%d, %d: %d, %v", i, part, n, e)
			}
			seen[n] = true
		}
	}
}

// Rule R3: lists that are told share no memory.
func TestMemory(t *testing.T) {
	c, m := some(t)
	names, frames := c.Names(), c.Snapshot()
	clear(names[:cap(names)])
	clear(frames[:cap(frames)])
	holds(t, c, m)
}

// number is one up to the greatest, of any length.
func number(r *rand.Rand, greatest int) int { return r.Intn(greatest+1) >> r.Intn(41) }

// anySpec is a topic that often may be.
func anySpec(r *rand.Rand) api.Spec {
	s := api.Spec{Name: asked[r.Intn(len(asked))], Parts: 1 + r.Intn(4), Age: number(r, most), Size: number(r, most), Compact: r.Intn(2) == 0}
	switch r.Intn(20) {
	case 0:
		s.Parts = r.Intn(12) - 4
	case 1:
		s.Age = r.Intn(4*most) - most
	case 2:
		s.Size = r.Intn(4*most) - most
	}
	return s
}

// anyMeta is a meta that often may be.
func anyMeta(r *rand.Rand, gen int) catalog.Meta {
	next := number(r, mostOffset)
	d := dedup.New()
	for range r.Intn(18) * r.Intn(2) {
		d.Note(1+number(r, most-1), number(r, most), 1+r.Intn(8), number(r, 1<<20))
	}
	x := catalog.Meta{Gen: 1 + number(r, gen), Seq: number(r, most), Start: r.Intn(next + 1), Next: next, Table: d.Encode()}
	switch r.Intn(20) {
	case 0:
		x.Gen = r.Intn(4*mostGen) - mostGen
	case 1:
		x.Seq = r.Intn(4*most) - most
	case 2:
		x.Start = r.Intn(4*mostOffset) - mostOffset
	case 3:
		x.Next = r.Intn(4*mostOffset) - mostOffset
	case 4:
		x.Table = x.Table[r.Intn(len(x.Table)):]
	}
	return x
}

// anyEntry is an entry that was made without a look at what is there.
func anyEntry(r *rand.Rand, gen int) api.Frame {
	name := asked[r.Intn(len(asked))]
	return []api.Frame{
		one(r.Intn(10), 1+number(r, gen), anySpec(r)), two(name), three(api.Place{Topic: name, Part: r.Intn(5)}, anyMeta(r, gen)), four(number(r, gen)),
	}[r.Intn(4)]
}

// damaged is an entry a bit of which may be turned, or of which a byte may go, or come.
func damaged(r *rand.Rand, f api.Frame) api.Frame {
	s := []byte(f.Payload)
	if len(s) == 0 {
		return f
	}
	at := r.Intn(len(s))
	switch r.Intn(12) {
	case 0:
		s[at] ^= 1 << r.Intn(8)
	case 1:
		s = slices.Delete(s, at, at+1)
	case 2:
		s = slices.Insert(s, at, byte(r.Intn(256)))
	case 3:
		s = append(s, byte(r.Intn(256)))
	case 4:
		f.Kind = r.Intn(7) - 1
	}
	return api.Frame{Kind: f.Kind, Payload: string(s)}
}

// Promises 23.1 to 23.6: whatever is asked for and applied, all is as the words say.
func TestAgainstTheWords(t *testing.T) {
	r := rand.New(rand.NewSource(1))
	errors, entries := map[api.Errno]int{}, map[bool]int{}
	for range 150 {
		c, m := catalog.New(), newModel()
		gen := []int{3, 100, mostGen - 1}[r.Intn(3)]
		for range 60 {
			var f api.Frame
			var e api.Errno
			switch r.Intn(10) {
			case 0, 1, 2, 3, 4:
				f, e = creates(t, c, m, anySpec(r))
			case 5:
				f, e = removes(t, c, m, asked[r.Intn(len(asked))])
			case 6, 7, 8:
				f, e = puts(t, c, m, api.Place{Topic: asked[r.Intn(len(asked))], Part: r.Intn(5)}, anyMeta(r, gen))
			case 9:
				f, e = anyEntry(r, gen), api.OK
			}
			errors[e]++
			if e == api.OK && r.Intn(8) > 0 {
				entries[applies(t, c, m, damaged(r, f))]++
			}
			holds(t, c, m)
		}
	}
	for _, e := range []api.Errno{api.OK, api.ErrArg, api.ErrSame, api.ErrFull, api.ErrNone} {
		if errors[e] < 20 {
			t.Errorf("%v: %d times alone", e, errors[e])
		}
	}
	if min(entries[true], entries[false]) < 200 {
		t.Errorf("too few entries of a kind: %v", entries)
	}
}

// Promise 23.1: of entries that may be each one with one byte more, less, or another one.
func TestOneByte(t *testing.T) {
	may := map[bool]int{}
	for _, f := range []api.Frame{one(3, 300, api.Spec{Name: "z", Parts: 2, Age: 3, Size: 400}), two("a"), three(api.Place{Topic: "a", Part: 1}, catalog.Meta{Gen: 300, Seq: 2, Start: 3, Next: 400, Table: table(t, 1)}), four(300)} {
		for i := range len(f.Payload) + 1 {
			var payloads []string
			for b := range 256 {
				payloads = append(payloads, f.Payload[:i]+string([]byte{byte(b)})+f.Payload[i:])
				if i < len(f.Payload) {
					payloads = append(payloads, f.Payload[:i]+string([]byte{byte(b)})+f.Payload[i+1:])
				}
			}
			for _, payload := range payloads {
				c, m := catalog.New(), newModel()
				for slot, name := range []string{"b", "a"} {
					applies(t, c, m, one(slot, slot+1, api.Spec{Name: name, Parts: 3}))
				}
				ok := applies(t, c, m, api.Frame{Kind: f.Kind, Payload: payload})
				if l := c.Snapshot(); !slices.Equal(l, m.snapshot()) {
					t.Fatalf("Snapshot behind %q: %#v, not %#v", payload, l, m.snapshot())
				}
				may[ok]++
			}
		}
	}
	if min(may[true], may[false]) < 500 {
		t.Errorf("too few entries of a kind: %v", may)
	}
}
