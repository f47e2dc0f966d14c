package part_test

import (
	"encoding/binary"
	"math"
	"math/rand"
	"runtime"
	"slices"
	"strings"
	"testing"

	"weighlock/api"
	"weighlock/part"
)

const (
	most       = 1 << 40 // of a record's numbers
	mostOffset = 1 << 20
	mostFetch  = 16
)

// x is so many bytes.
func x(n int) string { return strings.Repeat("x", n) }

// model is a partition, by the words of the chapter.
type model struct {
	start, next, mark int
	records           []api.Record
}

// mayBe tells whether a record may be, by the words of chapter 16.
func mayBe(r api.Record) bool {
	for _, n := range []int{r.Tick, r.Producer, r.Seq, r.From} {
		if n < 0 || n > most {
			return false
		}
	}
	if r.Offset < 0 || r.Offset > mostOffset || len(r.Key) > 32 || len(r.Value) > 200 || r.Producer == 0 && r.Seq != 0 {
		return false
	}
	return !r.Gone || r.Key != "" && r.Value == ""
}

// bytes is how many a record that may be has, by the words of chapters 1 and 16.
func bytes(r api.Record) int {
	var b []byte
	for _, n := range []int{r.Offset, r.Tick, r.Producer, r.Seq, r.From, 0, len(r.Key), len(r.Value)} {
		b = binary.AppendUvarint(b, uint64(n))
	}
	return len(b) + len(r.Key) + len(r.Value)
}

// verdict tells why records may not stand where each one's offset must be one that may be.
func verdict(l []api.Record, offsetMay func(at, offset int) bool) api.Errno {
	for _, r := range l {
		if !mayBe(r) {
			return api.ErrArg
		}
	}
	for i, r := range l {
		if !offsetMay(i, r.Offset) || i > 0 && r.Offset <= l[i-1].Offset {
			return api.ErrOffset
		}
	}
	return api.OK
}

// append puts records behind all.
func (m *model) append(l []api.Record) api.Errno {
	e := verdict(l, func(at, offset int) bool { return at > 0 || offset >= m.next })
	if e == api.OK && len(l) > 0 {
		m.records = slices.Concat(m.records, l)
		m.next = l[len(l)-1].Offset + 1
	}
	return e
}

// trim lets all records below an offset go.
func (m *model) trim(start int) api.Errno {
	if start < m.start || start > m.next {
		return api.ErrOffset
	}
	var kept []api.Record
	for _, r := range m.records {
		if r.Offset >= start {
			kept = append(kept, r)
		}
	}
	m.start, m.records = start, kept
	if m.mark < start {
		m.mark = start
	}
	return api.OK
}

// replace puts records in the place of all.
func (m *model) replace(l []api.Record) api.Errno {
	e := verdict(l, func(_, offset int) bool { return offset >= m.start && offset < m.next })
	if e == api.OK {
		m.records = slices.Clone(l)
	}
	return e
}

// set sets the offsets.
func (m *model) set(start, next int) api.Errno {
	if len(m.records) > 0 || m.next != 0 {
		return api.ErrState
	}
	if start < 0 || start > next || next > mostOffset+1 {
		return api.ErrArg
	}
	m.start, m.next, m.mark = start, next, next
	return api.OK
}

// fetch are records from an offset on, and where to go on.
func (m *model) fetch(from, most int) ([]api.Record, int, api.Errno) {
	if from < m.start || from > m.mark {
		return nil, 0, api.ErrOffset
	}
	var l []api.Record
	for _, r := range m.records {
		if r.Offset >= from && r.Offset < m.mark && len(l) < most && len(l) < mostFetch {
			l = append(l, r)
		}
	}
	switch {
	case len(l) > 0:
		return l, l[len(l)-1].Offset + 1, api.OK
	case most >= 1:
		return nil, m.mark, api.OK
	}
	return nil, from, api.OK
}

// pair is a partition, and its model.
type pair struct {
	t *testing.T
	p *part.Part
	m *model
}

// made is a partition without records.
func made(t *testing.T) *pair {
	t.Helper()
	p := part.New()
	if p == nil {
		t.Fatal("New: nil")
	}
	return &pair{t, p, &model{}}
}

// having is a partition of these records, of which readers see all.
func having(t *testing.T, l []api.Record) *pair {
	t.Helper()
	p := made(t)
	p.append(l, api.OK)
	p.mark()
	return p
}

// told asks that an error was told, and that it is what the words say.
func (p *pair) told(what string, e, of, want api.Errno) {
	p.t.Helper()
	if e != want || of != want {
		p.t.Fatalf("%s: %v, by the words %v, not %v", what, e, of, want)
	}
}

// append puts records behind all.
func (p *pair) append(l []api.Record, want api.Errno) {
	p.t.Helper()
	was := slices.Clone(l)
	p.told("Append", p.p.Append(l), p.m.append(l), want)
	p.left(l, was)
}

// trim lets all records below an offset go.
func (p *pair) trim(start int, want api.Errno) {
	p.t.Helper()
	p.told("Trim", p.p.Trim(start), p.m.trim(start), want)
}

// replace puts records in the place of all.
func (p *pair) replace(l []api.Record, want api.Errno) {
	p.t.Helper()
	was := slices.Clone(l)
	p.told("Replace", p.p.Replace(l), p.m.replace(l), want)
	p.left(l, was)
}

// set sets the offsets.
func (p *pair) set(start, next int, want api.Errno) {
	p.t.Helper()
	p.told("Set", p.p.Set(start, next), p.m.set(start, next), want)
}

// mark lets readers see all.
func (p *pair) mark() {
	p.p.Mark()
	p.m.mark = p.m.next
}

// left asks that what was handed in is left as it was.
func (p *pair) left(l, was []api.Record) {
	p.t.Helper()
	if !slices.Equal(l, was) {
		p.t.Fatalf("what was handed in was changed: %v, not %v", l, was)
	}
}

// fetches asks for records from an offset on.
func (p *pair) fetches(from, most int) {
	p.t.Helper()
	want, wantOn, wantE := p.m.fetch(from, most)
	l, on, e := p.p.Fetch(from, most)
	if !slices.Equal(l, want) || on != wantOn || e != wantE {
		p.t.Fatalf("Fetch(%d, %d): %v, %d, %v, not %v, %d, %v", from, most, l, on, e, want, wantOn, wantE)
	}
	clear(l[:cap(l)]) // what is told shares no memory with what is kept
}

// holds asks for all that is told of a partition; it changes nothing.
func (p *pair) holds() {
	p.t.Helper()
	sum := 0
	for _, r := range p.m.records {
		sum += bytes(r)
	}
	for range 2 {
		if s, n, m, b := p.p.Start(), p.p.Next(), p.p.Seen(), p.p.Bytes(); s != p.m.start || n != p.m.next || m != p.m.mark || b != sum {
			p.t.Fatalf("start %d, next %d, mark %d, %d bytes, not %d, %d, %d, %d", s, n, m, b, p.m.start, p.m.next, p.m.mark, sum)
		}
		l := p.p.All()
		if !slices.Equal(l, p.m.records) {
			p.t.Fatalf("All: %v, not %v", l, p.m.records)
		}
		clear(l[:cap(l)])
	}
	for _, from := range p.places() {
		for _, n := range []int{math.MinInt, -1, 0, 1, 2, 15, 16, 17, math.MaxInt} {
			p.fetches(from, n)
		}
	}
}

// places are offsets around all that a partition has.
func (p *pair) places() []int {
	l := []int{math.MinInt, -1, math.MaxInt, mostOffset, mostOffset + 1}
	for _, n := range []int{0, p.m.start, p.m.mark, p.m.next} {
		l = append(l, n-1, n, n+1)
	}
	for i, r := range p.m.records {
		if i < 20 || i%7 == 0 {
			l = append(l, r.Offset, r.Offset+1)
		}
	}
	return l
}

// at are records with these offsets.
func at(offsets ...int) []api.Record {
	var l []api.Record
	for i, offset := range offsets {
		l = append(l, api.Record{Offset: offset, Tick: i, Key: "k", Value: x(offset & 7)})
	}
	return l
}

// from are so many records, each so much behind the one ahead.
func from(n, offset, step int) []api.Record {
	var l []int
	for i := range n {
		l = append(l, offset+i*step)
	}
	return at(l...)
}

// wrong are records that may not be, whatever their offsets are.
func wrong() []api.Record {
	return []api.Record{
		{Tick: -1}, {Tick: most + 1}, {Producer: -1}, {Producer: most + 1}, {Seq: 1}, {Producer: 1, Seq: -1}, {Producer: 1, Seq: most + 1}, {From: -1}, {From: most + 1},
		{Key: x(33)}, {Value: x(201)}, {Gone: true}, {Gone: true, Key: "k", Value: "v"},
	}
}

// wrongOffsets are such as no record has.
func wrongOffsets() []int {
	return []int{-1, -2, math.MinInt, mostOffset + 1, mostOffset + 2, most, math.MaxInt}
}

// The example of the chapter.
func TestExample(t *testing.T) {
	p := having(t, []api.Record{{Offset: 0}, {Offset: 2}})
	if l, on, e := p.p.Fetch(1, 9); !slices.Equal(l, []api.Record{{Offset: 2}}) || on != 3 || e != api.OK {
		t.Errorf("%v, %d, %v", l, on, e)
	}
	p.holds()
}

// Promise 19.1: a partition without records; each has its own.
func TestNew(t *testing.T) {
	p, q := made(t), made(t)
	p.holds()
	p.append(from(3, 0, 1), api.OK)
	p.mark()
	q.holds()
	made(t).holds()
}

// Promise 19.1: records behind all, with and without gaps; readers do not see them yet.
func TestAppend(t *testing.T) {
	for step := 1; step < 4; step++ {
		for begin := range 3 {
			p, q := made(t), made(t)
			for i := range 40 {
				l := from(1, begin+i*step, step)
				l[0].Tick = i
				p.append(l, api.OK)
				if i%9 == 0 {
					p.append(nil, api.OK)
					p.append([]api.Record{}, api.OK)
					p.holds()
				}
			}
			q.append(from(40, begin, step), api.OK) // all at a time
			if p.holds(); p.p.Seen() != 0 || !slices.Equal(p.p.All(), q.p.All()) {
				t.Fatalf("%d, %v, not %v", p.p.Seen(), p.p.All(), q.p.All())
			}
			q.mark()
			q.append(from(9, q.m.next+5, step), api.OK)
			q.holds()
		}
	}
	p := made(t) // all that a record may have
	p.append([]api.Record{{Offset: 3, Tick: most, Key: x(32), Value: x(200), Producer: most, Seq: most, From: most}, {Offset: 900, Key: "k", Gone: true, Producer: 1, From: 5}}, api.OK)
	p.mark()
	p.holds()
}

// Promise 19.1: the last offset that may be; behind it there is none.
func TestAppendAtTheEnd(t *testing.T) {
	for _, l := range [][]api.Record{at(mostOffset), at(0, mostOffset), at(mostOffset-1, mostOffset)} {
		p := having(t, l)
		if p.holds(); p.p.Next() != mostOffset+1 {
			t.Fatalf("next %d", p.p.Next())
		}
		p.append(at(mostOffset), api.ErrOffset)
		p.append(at(mostOffset+1), api.ErrArg)
		p.append(at(0), api.ErrOffset)
		p.append(nil, api.OK)
		p.holds()
		p.trim(mostOffset, api.OK)
		p.holds()
		p.trim(mostOffset+1, api.OK)
		p.holds()
		p.trim(mostOffset+2, api.ErrOffset)
		p.holds()
	}
}

// Promise 19.1: offsets below next, and such as do not rise, at each place, wherever the mark is; they change nothing.
func TestAppendsOffsets(t *testing.T) {
	for _, has := range [][]api.Record{nil, at(0), at(4, 9), from(12, 0, 1)} {
		for marked := range len(has) + 1 {
			p := having(t, has[:marked])
			p.append(has[marked:], api.OK)
			next := p.m.next
			for n := 1; n < 6; n++ {
				for place := range n {
					for _, by := range []int{1, 2, 5, 8} {
						l := from(n, next+3, 1)
						if next >= by {
							l[place].Offset = next - by
							p.append(l, api.ErrOffset)
						}
						if place > 0 {
							l[place].Offset = l[place-1].Offset - min(by-1, l[place-1].Offset)
							p.append(l, api.ErrOffset)
						}
					}
				}
			}
			p.holds()
			p.append(from(3, next, 1), api.OK)
			p.holds()
		}
	}
}

// Promises 19.1 and 19.2: records that may not be, at each place, are told ahead of offsets; they change nothing.
func TestWrongRecords(t *testing.T) {
	for _, has := range [][]api.Record{nil, from(20, 0, 2)} {
		p := having(t, has)
		for n := 1; n < 5; n++ {
			for place := range n {
				for _, begin := range []int{0, 7, p.m.next, p.m.next + 3, mostOffset - 3} {
					for _, r := range wrong() {
						l := from(n, begin, 1)
						r.Offset = l[place].Offset
						l[place] = r
						p.append(l, api.ErrArg)
						p.replace(l, api.ErrArg)
					}
					for _, offset := range wrongOffsets() {
						l := from(n, begin, 1)
						l[place].Offset = offset
						p.append(l, api.ErrArg)
						p.replace(l, api.ErrArg)
					}
				}
			}
		}
		p.holds()
	}
}

// Promise 19.2: all starts, of partitions with and without gaps, wherever the mark is.
func TestTrim(t *testing.T) {
	for step := 1; step < 4; step++ {
		for marked := range 6 {
			next := having(t, from(5, 1, step)).m.next
			for start := range next + 1 {
				p := made(t)
				p.append(from(marked, 1, step), api.OK)
				p.mark()
				p.append(from(5-marked, 1+marked*step, step), api.OK)
				p.trim(start, api.OK)
				p.holds()
				p.trim(start, api.OK) // again
				p.trim(start-1, api.ErrOffset)
				p.trim(next+1, api.ErrOffset)
				p.holds()
				p.append(at(next), api.OK) // it goes on as if nothing had gone
				p.holds()
				p.mark()
				p.holds()
			}
		}
	}
}

// Promise 19.2: starts that may not be; they change nothing.
func TestTrimsErrors(t *testing.T) {
	p := made(t)
	for _, start := range []int{-1, 1, 2, mostOffset, math.MinInt, math.MaxInt} {
		p.trim(start, api.ErrOffset)
	}
	p.holds()
	p = having(t, from(5, 2, 3))
	p.trim(4, api.OK)
	for _, start := range []int{3, 2, 0, -1, math.MinInt, 16, 17, mostOffset, math.MaxInt} {
		p.trim(start, api.ErrOffset)
		p.holds()
	}
}

// Promise 19.2: records in the place of all, within start and next; these stay, and so does the mark.
func TestReplace(t *testing.T) {
	for _, l := range [][]api.Record{nil, {}, at(4), at(19), at(4, 19), from(16, 4, 1), at(7, 8, 15), from(4, 5, 2)} {
		p := having(t, from(10, 0, 2)) // next is 19
		p.append(at(19), api.OK)       // it is 20 now, the mark is 19
		p.trim(4, api.OK)
		p.replace(l, api.OK)
		if p.holds(); p.p.Start() != 4 || p.p.Next() != 20 || p.p.Seen() != 19 {
			t.Fatalf("%d, %d, %d", p.p.Start(), p.p.Next(), p.p.Seen())
		}
		p.append(at(20), api.OK)
		p.holds()
		p.mark()
		p.holds()
		p.trim(8, api.OK)
		p.holds()
		p.replace(p.p.All(), api.OK)
		p.holds()
	}
	p := made(t)
	p.replace(nil, api.OK)
	p.holds()
	p.set(2, 5, api.OK)
	p.replace(at(3, 4), api.OK) // where none were
	p.holds()
}

// Promise 19.2: offsets that may not be replaced by, at each place; they change nothing.
func TestReplacesErrors(t *testing.T) {
	made := func() *pair {
		p := having(t, from(10, 0, 2))
		p.trim(4, api.OK)
		return p
	}
	for n := 1; n < 6; n++ {
		for place := range n {
			for _, offset := range []int{0, 3, 19, 20, mostOffset} {
				p, l := made(), from(n, 6, 2)
				l[place].Offset = offset
				p.replace(l, api.ErrOffset)
				p.holds()
			}
			for by := range 3 {
				if p, l := made(), from(n, 6, 2); place > 0 {
					l[place].Offset = l[place-1].Offset - by
					p.replace(l, api.ErrOffset)
					p.holds()
				}
			}
		}
	}
	p := part.New() // without a next none may be
	if e := p.Replace(at(0)); e != api.ErrOffset || len(p.All()) != 0 {
		t.Errorf("%v, %v", e, p.All())
	}
}

// Promise 19.2: start and next from their least to their most, and beyond; the mark is next.
func TestSet(t *testing.T) {
	numbers := []int{math.MinInt, -2, -1, 0, 1, 2, 100, mostOffset - 1, mostOffset, mostOffset + 1, mostOffset + 2, most, math.MaxInt}
	for _, start := range numbers {
		for _, next := range numbers {
			p := made(t)
			if start >= 0 && start <= next && next <= mostOffset+1 {
				p.set(start, next, api.OK)
				p.holds()
				p.append(nil, api.OK)
				p.holds()
				continue
			}
			p.set(start, next, api.ErrArg)
			p.holds()
			p.set(3, 4, api.OK) // it changed nothing
			p.holds()
		}
	}
}

// Promise 19.2: Set of a partition that is no more as it was; it is told ahead of what may not be.
func TestSetsState(t *testing.T) {
	changes := map[string]func(p *pair){
		"appended": func(p *pair) { p.append(at(0), api.OK) },
		"behind":   func(p *pair) { p.append(at(5), api.OK) },
		"trimmed":  func(p *pair) { p.append(at(0), api.OK); p.trim(1, api.OK) },
		"replaced": func(p *pair) { p.append(at(0), api.OK); p.replace(nil, api.OK) },
		"set":      func(p *pair) { p.set(0, 1, api.OK) },
		"set both": func(p *pair) { p.set(1, 1, api.OK) },
	}
	for _, change := range changes {
		p := made(t)
		change(p)
		for _, n := range [][2]int{{0, 0}, {1, 2}, {0, 1}, {0, 9}, {-1, 0}, {2, 1}, {0, mostOffset + 2}} {
			p.set(n[0], n[1], api.ErrState)
			p.holds()
		}
	}
	p := made(t) // what changes nothing keeps none away
	p.set(0, 0, api.OK)
	p.append(nil, api.OK)
	p.replace(nil, api.OK)
	p.trim(0, api.OK)
	p.mark()
	p.set(0, 0, api.OK)
	p.set(4, 9, api.OK)
	p.holds()
	p.append(at(8), api.ErrOffset)
	p.append(at(9, 11), api.OK)
	p.holds()
	p.mark()
	p.holds()
	p.trim(10, api.OK)
	p.holds()
}

// Promises 19.2 and 19.3: the mark is next as it was then, not as it comes to be.
func TestMark(t *testing.T) {
	p := made(t)
	for i := range 30 {
		p.append(at(3*i), api.OK)
		if p.holds(); i%4 == 0 {
			p.mark()
			p.mark()
			p.holds()
		}
	}
}

// Promise 19.3: from each offset on, at most so many, wherever the mark is.
func TestFetch(t *testing.T) {
	for _, marked := range []int{0, 1, 15, 16, 17, 18, 40} {
		for step := 1; step < 4; step++ {
			p := made(t)
			p.append(from(marked, 2, step), api.OK)
			p.mark()
			p.append(from(40-marked, 2+marked*step, step), api.OK)
			for start := range []int{0, 2, 5} {
				p.trim(start, api.OK)
				for from := range p.m.next + 3 {
					for n := range 20 {
						p.fetches(from, n)
					}
				}
				p.holds()
			}
		}
	}
	p := having(t, from(40, 0, 1))
	if l, on, e := p.p.Fetch(0, math.MaxInt); len(l) != 16 || on != 16 || e != api.OK {
		t.Errorf("%v, %d, %v", l, on, e)
	}
}

// Promise 19.3: where to go on, if there are none.
func TestFetchesNone(t *testing.T) {
	p := having(t, at(2, 9))
	p.replace(at(2), api.OK)
	for from := 3; from <= 10; from++ {
		for _, n := range []int{1, 2, 16, 17, math.MaxInt} {
			if l, on, e := p.p.Fetch(from, n); len(l) != 0 || on != 10 || e != api.OK {
				t.Errorf("Fetch(%d, %d): %v, %d, %v", from, n, l, on, e)
			}
		}
		for _, n := range []int{0, -1, math.MinInt} {
			if l, on, e := p.p.Fetch(from, n); len(l) != 0 || on != from || e != api.OK {
				t.Errorf("Fetch(%d, %d): %v, %d, %v", from, n, l, on, e)
			}
		}
	}
	p.holds()
}

// readsThrough reads from the start on, again and again, and tells what it was told.
func (p *pair) readsThrough(most func() int) []api.Record {
	p.t.Helper()
	var all []api.Record
	for at := p.p.Start(); at < p.p.Seen(); {
		l, on, e := p.p.Fetch(at, most())
		if e != api.OK || on <= at || on > p.p.Seen() {
			p.t.Fatalf("Fetch(%d, ..): %d, %v", at, on, e)
		}
		all, at = append(all, l...), on
	}
	return all
}

// Promise 19.4: who goes on where it was told is told each record below the mark once, in order, and comes to the mark.
func TestReadsThrough(t *testing.T) {
	r := rand.New(rand.NewSource(4))
	for range 300 {
		p := made(t)
		for range r.Intn(9) {
			p.append(from(r.Intn(20), p.m.next+r.Intn(4), 1+r.Intn(4)), api.OK)
			if r.Intn(3) > 0 {
				p.mark()
			}
			if r.Intn(5) == 0 {
				p.trim(p.m.start+r.Intn(p.m.next-p.m.start+1), api.OK)
			}
			if r.Intn(5) == 0 {
				p.replace(slices.DeleteFunc(p.p.All(), func(api.Record) bool { return r.Intn(3) == 0 }), api.OK)
			}
		}
		want := slices.DeleteFunc(slices.Clone(p.m.records), func(a api.Record) bool { return a.Offset >= p.m.mark })
		for _, n := range []int{1, 2, 16, 99} {
			if all := p.readsThrough(func() int { return 1 + r.Intn(n) }); !slices.Equal(all, want) {
				t.Fatalf("%v, not %v", all, want)
			}
		}
	}
}

// Promise 19.3: of all kinds of records the sum of their bytes.
func TestBytes(t *testing.T) {
	p := having(t, []api.Record{{}, {Offset: 200, Tick: 300, Producer: 400, Seq: 500, From: 600, Key: "key", Value: "value"}, {Offset: 201, Key: "k", Gone: true}})
	for start, want := range map[int]int{0: 8 + 21 + 10, 1: 21 + 10, 200: 21 + 10, 201: 10, 202: 0} {
		q := having(t, p.p.All())
		q.trim(start, api.OK)
		if n := q.p.Bytes(); n != want {
			t.Errorf("from %d on: %d, not %d", start, n, want)
		}
	}
	p.holds()
}

// Rule R3: what is handed in is left as it is, also behind the list, and what is kept is no piece of it.
func TestMemory(t *testing.T) {
	for _, replaced := range []bool{false, true} {
		for n := range 6 {
			l := from(6, 0, 1)
			was := slices.Clone(l)
			p := made(t)
			put := p.p.Append
			if replaced {
				p.set(0, 6, api.OK)
				put = p.p.Replace
			}
			if e := put(l[:n]); e != api.OK || !slices.Equal(l, was) {
				t.Fatalf("%v; %v, not %v", e, l, was)
			}
			if e := p.p.Append([]api.Record{{Offset: 10}}); e != api.OK || !slices.Equal(l, was) {
				t.Fatalf("%v; %v, not %v", e, l, was)
			}
			clear(l)
			if all := p.p.All(); !slices.Equal(all, append(was[:n:n], api.Record{Offset: 10})) {
				t.Fatalf("%v, not %v", all, was[:n])
			}
		}
	}
}

// held is how many bytes the program holds.
func held() int {
	runtime.GC()
	var m runtime.MemStats
	runtime.ReadMemStats(&m)
	return int(m.HeapAlloc)
}

// Rule R3: texts that are kept are no pieces of longer ones, which would be kept with them.
func TestTextsThatAreKept(t *testing.T) {
	pieces := func() []api.Record {
		l := from(100, 0, 1)
		for i := range l {
			long := x(100000)
			l[i].Key, l[i].Value = long[:20], long[30:90]
		}
		return l
	}
	p, q, before := part.New(), part.New(), held()
	if e := p.Append(pieces()); e != api.OK {
		t.Fatal(e)
	}
	if e := q.Set(0, 100); e != api.OK || q.Replace(pieces()) != api.OK {
		t.Fatal(e)
	}
	if more := held() - before; more > 5000000 {
		t.Errorf("%d bytes more are held", more)
	}
	if p.Bytes() != q.Bytes() || p.Bytes() < 80*100 {
		t.Errorf("%d, %d bytes", p.Bytes(), q.Bytes())
	}
}

// Promise 19.2: the texts of records that are trimmed are kept no longer.
func TestTextsThatGo(t *testing.T) {
	p := part.New()
	for i := range 10000 {
		if e := p.Append([]api.Record{{Offset: i, Key: x(32), Value: x(200)}}); e != api.OK {
			t.Fatal(e)
		}
	}
	before := held()
	if e := p.Trim(10000); e != api.OK {
		t.Fatal(e)
	}
	if less := before - held(); less < 2000000 {
		t.Errorf("but %d bytes less are held", less)
	}
	if e := p.Append([]api.Record{{Offset: 10000}}); e != api.OK || p.Bytes() != 9 {
		t.Errorf("%v, %d bytes", e, p.Bytes())
	}
}

// Promise 19.3 and rule R3: records that were told stay as they are, whatever becomes of the partition.
func TestAnswersStay(t *testing.T) {
	p := having(t, from(20, 0, 1))
	all := p.p.All()
	some, _, _ := p.p.Fetch(3, 9)
	was, of := slices.Clone(all), slices.Clone(some)
	changes := []func(){
		func() { p.trim(5, api.OK) }, func() { p.append(at(20), api.OK) }, func() { p.replace(at(6, 18), api.OK) }, func() { p.append(at(21), api.OK) }, func() { p.trim(22, api.OK) }, func() { p.append(at(22, 23, 24), api.OK) },
	}
	for _, change := range changes {
		change()
		p.holds()
		if !slices.Equal(all, was) || !slices.Equal(some, of) {
			t.Fatalf("%v, %v, not %v, %v", all, some, was, of)
		}
	}
}

// Promises 19.1 to 19.3: of nil.
func TestNil(t *testing.T) {
	var p *part.Part
	for _, l := range [][]api.Record{nil, at(0), at(-1), at(1, 1)} {
		if e := p.Append(l); e != api.ErrState {
			t.Errorf("Append: %v", e)
		}
		if e := p.Replace(l); e != api.ErrState {
			t.Errorf("Replace: %v", e)
		}
	}
	for _, n := range []int{-1, 0, 1, mostOffset + 2} {
		if e := p.Trim(n); e != api.ErrState {
			t.Errorf("Trim: %v", e)
		}
		if e := p.Set(n, n); e != api.ErrState {
			t.Errorf("Set: %v", e)
		}
		if l, on, e := p.Fetch(n, n); len(l) != 0 || on != 0 || e != api.ErrState {
			t.Errorf("Fetch: %v, %d, %v", l, on, e)
		}
	}
	p.Mark()
	if l := p.All(); len(l) != 0 || p.Start() != 0 || p.Next() != 0 || p.Seen() != 0 || p.Bytes() != 0 {
		t.Errorf("%v, %d, %d, %d, %d", l, p.Start(), p.Next(), p.Seen(), p.Bytes())
	}
}

// Rule R1: no call dies, not even of a partition that New never gave.
func TestZeroPart(t *testing.T) {
	p := &pair{t, new(part.Part), &model{}}
	p.holds()
	p.mark()
	p.trim(0, api.OK)
	p.replace(nil, api.OK)
	p.append(at(0, 3), api.OK)
	p.mark()
	p.holds()
}

// records are some of which mostly each one may be, with offsets that mostly rise from about one on.
func records(r *rand.Rand, offset int) []api.Record {
	number := func() int { return r.Intn(most+1) >> r.Intn(41) }
	var l []api.Record
	offset += max(0, r.Intn(12)-8)
	for range r.Intn(9) {
		a := api.Record{Offset: offset, Tick: number(), From: number(), Key: x(r.Intn(33)), Value: x(r.Intn(201) >> r.Intn(8))}
		if r.Intn(2) == 0 {
			a.Producer, a.Seq = 1+r.Intn(9), number()
		}
		if a.Key != "" && r.Intn(3) == 0 {
			a.Gone, a.Value = true, ""
		}
		if r.Intn(120) == 0 {
			a = wrong()[r.Intn(len(wrong()))]
			a.Offset = offset
		}
		l = append(l, a)
		offset += 1 + max(0, r.Intn(9)-6)
		if r.Intn(80) == 0 {
			offset -= r.Intn(4)
		}
	}
	return l
}

// agreed is an error, if it is what the words say.
func (p *pair) agreed(e, of api.Errno) api.Errno {
	p.t.Helper()
	if e != of {
		p.t.Fatalf("%v, not %v", e, of)
	}
	return e
}

// does does one of all that may be done, and tells what, and the error.
func (p *pair) does(r *rand.Rand) (string, api.Errno) {
	p.t.Helper()
	within := func(from, below int) int { return from + r.Intn(max(1, below-from)) - r.Intn(12)/11 }
	switch r.Intn(9) {
	case 0:
		start := within(p.m.start, min(p.m.next+2, p.m.start+9))
		return "Trim", p.agreed(p.p.Trim(start), p.m.trim(start))
	case 1:
		l := records(r, within(p.m.start, p.m.next))
		if r.Intn(3) > 0 {
			l = slices.DeleteFunc(p.p.All(), func(api.Record) bool { return r.Intn(4) == 0 })
		}
		return "Replace", p.agreed(p.p.Replace(l), p.m.replace(l))
	case 2:
		start, next := within(0, 9), within(0, 20)
		return "Set", p.agreed(p.p.Set(start, next), p.m.set(start, next))
	case 3, 4:
		p.mark()
		return "Mark", api.OK
	}
	l := records(r, p.m.next-max(0, r.Intn(40)-36))
	return "Append", p.agreed(p.p.Append(l), p.m.append(l))
}

// Promises 19.1 to 19.4: whatever is done, what is told is what the words say.
func TestAgainstTheWords(t *testing.T) {
	r := rand.New(rand.NewSource(1))
	type outcome struct {
		what string
		e    api.Errno
	}
	told := map[outcome]int{}
	for range 400 {
		p := made(t)
		if r.Intn(8) == 0 {
			p.set(mostOffset-60, mostOffset-30, api.OK)
		}
		for range 60 {
			what, e := p.does(r)
			told[outcome{what, e}]++
			if r.Intn(3) == 0 {
				p.holds()
			}
		}
	}
	for _, o := range []outcome{{"Append", api.OK}, {"Append", api.ErrArg}, {"Append", api.ErrOffset}, {"Replace", api.OK}, {"Replace", api.ErrArg}, {"Replace", api.ErrOffset}, {"Trim", api.OK}, {"Trim", api.ErrOffset}, {"Set", api.OK}, {"Set", api.ErrState}, {"Set", api.ErrArg}} {
		if told[o] < 10 {
			t.Errorf("too few of %v: %v", o, told)
		}
	}
}
