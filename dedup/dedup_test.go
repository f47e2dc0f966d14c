package dedup_test

import (
	"encoding/binary"
	"maps"
	"math"
	"math/rand"
	"slices"
	"strings"
	"testing"

	"weighlock/api"
	"weighlock/dedup"
)

const (
	most       = 1 << 40 // of producers, and of their numbers
	mostOffset = 1 << 20
)

// noted is a producer's last batch.
type noted struct{ seq, n, offset int }

// model is a table, by the words of the chapter.
type model map[int]noted

// mayBe tells whether a producer may be, with such a last batch.
func mayBe(producer int, b noted) bool {
	return producer >= 1 && producer <= most && b.seq >= 0 && b.seq <= most && b.n >= 1 && b.n <= 8 && b.offset >= 0 && b.offset <= mostOffset
}

// check tells of a batch whether it is new, or the last one.
func (m model) check(producer, seq, n int) (int, bool, api.Errno) {
	if !mayBe(producer, noted{seq, n, 0}) {
		return 0, false, api.ErrArg
	}
	b, there := m[producer]
	switch {
	case !there && seq != 0:
		return 0, false, api.ErrGap
	case !there && len(m) >= 16:
		return 0, false, api.ErrFull
	case !there:
		return 0, false, api.OK
	case b.seq == seq && b.n == n:
		return b.offset, true, api.OK
	case b.seq+b.n == seq:
		return 0, false, api.OK
	}
	return 0, false, api.ErrGap
}

// note notes a batch.
func (m model) note(producer int, b noted) api.Errno {
	if !mayBe(producer, b) {
		return api.ErrArg
	}
	if _, there := m[producer]; !there && len(m) >= 16 {
		return api.ErrFull
	}
	m[producer] = b
	return api.OK
}

// laid are numbers as chains, by the words of chapter 1.
func laid(numbers ...uint64) string {
	var b []byte
	for _, n := range numbers {
		b = binary.AppendUvarint(b, n)
	}
	return string(b)
}

// chains are numbers that may be of a table as chains.
func chains(numbers ...int) string {
	s := ""
	for _, n := range numbers {
		s += laid(uint64(n))
	}
	return s
}

// bytes are a table's, by the words of the chapter.
func (m model) bytes() string {
	s := chains(len(m))
	for _, producer := range slices.Sorted(maps.Keys(m)) {
		b := m[producer]
		s += chains(producer, b.seq, b.n, b.offset)
	}
	return s
}

// cut is what is read by the words of the chapter of the table with which bytes begin; false, if there is none.
func cut(s string) (model, int, bool) {
	at, all := 0, true
	number := func() uint64 {
		v, n := binary.Uvarint([]byte(s[at:]))
		if n <= 0 || n > 1 && s[at+n-1] == 0 { // none, or one of too many bytes
			all = false
			return 0
		}
		at += n
		return v
	}
	many := number()
	if many > 16 {
		return nil, 0, false
	}
	m, before := model{}, uint64(0)
	for range many {
		producer, seq, n, offset := number(), number(), number(), number()
		if producer <= before || producer > most || seq > most || n < 1 || n > 8 || offset > mostOffset {
			return nil, 0, false
		}
		m[int(producer)], before = noted{int(seq), int(n), int(offset)}, producer
	}
	return m, at, all
}

// checks asks of a batch whether it is new, or the last one.
func checks(t *testing.T, d *dedup.Table, producer, seq, n, offset int, last bool, want api.Errno) {
	t.Helper()
	for range 2 { // what is asked changes nothing
		if o, l, e := d.Check(producer, seq, n); o != offset || l != last || e != want {
			t.Fatalf("Check(%d, %d, %d): %d, %v, %v, not %d, %v, %v", producer, seq, n, o, l, e, offset, last, want)
		}
	}
}

// isNew asks that a batch is new.
func isNew(t *testing.T, d *dedup.Table, producer, seq, n int) {
	t.Helper()
	checks(t, d, producer, seq, n, 0, false, api.OK)
}

// isLast asks that a batch is the last one.
func isLast(t *testing.T, d *dedup.Table, producer, seq, n, offset int) {
	t.Helper()
	checks(t, d, producer, seq, n, offset, true, api.OK)
}

// refuses asks why a batch is neither.
func refuses(t *testing.T, d *dedup.Table, producer, seq, n int, want api.Errno) {
	t.Helper()
	checks(t, d, producer, seq, n, 0, false, want)
}

// notes notes a batch.
func notes(t *testing.T, d *dedup.Table, producer, seq, n, offset int, want api.Errno) {
	t.Helper()
	if e := d.Note(producer, seq, n, offset); e != want {
		t.Fatalf("Note(%d, %d, %d, %d): %v, not %v", producer, seq, n, offset, e, want)
	}
}

// strangers are numbers that are no producers, and some that may be.
func strangers() []int {
	return []int{0, -1, -2, math.MinInt, math.MaxInt, most, most + 1, 1, 2, 3, 77}
}

// tells asks a table for all that it tells, but its bytes.
func tells(t *testing.T, d *dedup.Table, m model) {
	t.Helper()
	producers := slices.Sorted(maps.Keys(m))
	if l := d.Producers(); !slices.Equal(l, producers) {
		t.Fatalf("Producers: %v, not %v", l, producers)
	}
	for _, producer := range append(strangers(), producers...) {
		b := m[producer]
		if n := d.Next(producer); n != b.seq+b.n {
			t.Fatalf("Next(%d): %d, not %d", producer, n, b.seq+b.n)
		}
		for _, seq := range []int{0, b.seq, b.seq + b.n, b.seq + b.n + 1, b.seq - 1, b.seq + b.n - 1} {
			for _, n := range []int{1, b.n, b.n + 1, b.n - 1, 8} {
				offset, last, e := m.check(producer, seq, n)
				checks(t, d, producer, seq, n, offset, last, e)
			}
		}
	}
}

// holds asks a table for all that it tells, and tables from its bytes and its copy as well.
func holds(t *testing.T, d *dedup.Table, m model) {
	t.Helper()
	tells(t, d, m)
	want := m.bytes()
	for range 3 { // whatever the order in which a map is gone through
		if s := d.Encode(); s != want {
			t.Fatalf("Encode: %x, not %x", s, want)
		}
	}
	for _, behind := range []string{"", "\x00", "\xff", want, strings.Repeat("\x80", 99)} {
		a, n, e := dedup.Decode(want + behind)
		if a == nil || n != len(want) || e != api.OK || a.Encode() != want {
			t.Fatalf("Decode(%x): %v, %d, %v", want+behind, a, n, e)
		}
		tells(t, a, m)
	}
	c := d.Copy()
	if c == nil || c == d || c.Encode() != want {
		t.Fatalf("Copy: %v, not as %x", c, want)
	}
	tells(t, c, m)
}

// made is a table, and its model, into which batches were noted.
func made(t *testing.T, m model) *dedup.Table {
	t.Helper()
	d := dedup.New()
	if d == nil {
		t.Fatal("New: nil")
	}
	for _, producer := range slices.Sorted(maps.Keys(m)) {
		notes(t, d, producer, m[producer].seq, m[producer].n, m[producer].offset, api.OK)
	}
	return d
}

// full is the model of a table with as many producers as there may be.
func full() model {
	m := model{}
	for i := range 16 {
		m[100*i+5] = noted{i, i%8 + 1, 1000 - i}
	}
	return m
}

// isNone asks that bytes begin with no table.
func isNone(t *testing.T, s string) {
	t.Helper()
	if d, n, e := dedup.Decode(s); d != nil || n != 0 || e != api.ErrForm {
		t.Fatalf("Decode(%x): %v, %d, %v", s, d, n, e)
	}
}

// wrongNumbers are such as may not be from a least one to a greatest one.
func wrongNumbers(least, most int) []int {
	return []int{least - 1, least - 2, -1, -8, -most, math.MinInt, math.MinInt + 1, most + 1, most + 2, 2*most + 1, 1<<41 + 1, 1 << 62, math.MaxInt, math.MaxInt - 1}
}

// The example of the chapter.
func TestExample(t *testing.T) {
	d := dedup.New()
	isNew(t, d, 7, 0, 3)
	notes(t, d, 7, 0, 3, 40, api.OK)
	isLast(t, d, 7, 0, 3, 40)
	isNew(t, d, 7, 3, 1)
	refuses(t, d, 7, 4, 1, api.ErrGap)
	holds(t, d, model{7: {0, 3, 40}})
}

// Promise 18.1: a table without producers knows no batch.
func TestNew(t *testing.T) {
	holds(t, dedup.New(), nil)
	for _, producer := range []int{1, 2, 1 << 20, 1 << 32, most - 1, most} {
		for n := 1; n <= 8; n++ {
			isNew(t, dedup.New(), producer, 0, n)
			for _, seq := range []int{1, 2, n, 8, most - 1, most} {
				refuses(t, dedup.New(), producer, seq, n, api.ErrGap)
			}
		}
	}
	d := dedup.New()
	notes(t, d, 1, 0, 1, 0, api.OK)
	holds(t, dedup.New(), nil) // each has its own
}

// Promise 18.1: Check's errors, in their order, of tables with and without room.
func TestChecksErrors(t *testing.T) {
	for _, m := range []model{{}, {5: {0, 2, 7}}, full()} {
		d := made(t, m)
		for _, producer := range wrongNumbers(1, most) {
			refuses(t, d, producer, 0, 1, api.ErrArg)
			refuses(t, d, producer, 2, 2, api.ErrArg)
		}
		for _, producer := range []int{1, 5, most} {
			for _, seq := range wrongNumbers(0, most) {
				refuses(t, d, producer, seq, 2, api.ErrArg)
			}
			for _, n := range append(wrongNumbers(1, 8), 0, 16, 256, 257, 1<<32+1) {
				refuses(t, d, producer, 0, n, api.ErrArg)
				refuses(t, d, producer, 3, n, api.ErrArg) // told ahead of a gap
			}
		}
		holds(t, d, m)
	}
	d := made(t, full())
	for _, producer := range []int{1, 6, 2000, most} {
		refuses(t, d, producer, 1, 1, api.ErrGap) // told ahead of the table's being full
		refuses(t, d, producer, 0, 1, api.ErrFull)
	}
	for producer, b := range full() { // of those that are there it is not full
		isLast(t, d, producer, b.seq, b.n, b.offset)
		isNew(t, d, producer, b.seq+b.n, 1)
	}
}

// Promise 18.1: the last batch is that of the same first number and as many records; another one is new, if it is the next one, or none.
func TestCheck(t *testing.T) {
	for seq := range 12 {
		for n := 1; n <= 8; n++ {
			d := made(t, model{9: {seq, n, 500}})
			for other := range 24 {
				for m := 1; m <= 8; m++ {
					switch {
					case other == seq && m == n:
						isLast(t, d, 9, other, m, 500)
					case other == seq+n:
						isNew(t, d, 9, other, m)
					default:
						refuses(t, d, 9, other, m, api.ErrGap)
					}
				}
			}
		}
	}
	for _, offset := range []int{0, 1, mostOffset} {
		isLast(t, made(t, model{3: {0, 1, offset}}), 3, 0, 1, offset)
	}
}

// Promise 18.2: each of the four numbers from its least to its most; the last batch that was noted counts, be it the next one or not.
func TestNote(t *testing.T) {
	for _, producer := range []int{1, 2, 127, 128, most - 1, most} {
		for _, seq := range []int{0, 1, 127, 128, 1 << 32, most - 8, most - 1, most} {
			for n := 1; n <= 8; n++ {
				for _, offset := range []int{0, 1, 300, mostOffset - 1, mostOffset} {
					m := model{producer: {seq, n, offset}}
					holds(t, made(t, m), m)
				}
			}
		}
	}
	d := dedup.New()
	for _, b := range []noted{{5, 3, 9}, {8, 1, 12}, {0, 2, 3}, {0, 2, 4}, {100, 8, 0}, {100, 1, 0}} {
		notes(t, d, 4, b.seq, b.n, b.offset, api.OK)
		holds(t, d, model{4: b})
	}
}

// Promise 18.2: Note's errors, in their order, and that they change nothing.
func TestNotesErrors(t *testing.T) {
	for _, m := range []model{{}, {5: {0, 2, 7}}, full()} {
		d := made(t, m)
		for _, producer := range wrongNumbers(1, most) {
			notes(t, d, producer, 0, 1, 0, api.ErrArg)
		}
		for _, producer := range []int{1, 5, most} {
			for _, seq := range wrongNumbers(0, most) {
				notes(t, d, producer, seq, 1, 0, api.ErrArg)
			}
			for _, n := range append(wrongNumbers(1, 8), 0, 16, 256, 257, 1<<32+1) {
				notes(t, d, producer, 0, n, 0, api.ErrArg)
			}
			for _, offset := range wrongNumbers(0, mostOffset) {
				notes(t, d, producer, 0, 1, offset, api.ErrArg)
			}
		}
		holds(t, d, m)
	}
}

// Promise 18.2: there are sixteen producers at most; of one that is there a batch is noted still.
func TestFull(t *testing.T) {
	d, m := dedup.New(), model{}
	for i := range 16 {
		producer := 17 - i
		isNew(t, d, producer, 0, 1)
		notes(t, d, producer, i, 1, i, api.OK)
		m[producer] = noted{i, 1, i}
		holds(t, d, m)
	}
	for _, producer := range []int{1, 18, most} {
		refuses(t, d, producer, 0, 1, api.ErrFull)
		notes(t, d, producer, 0, 1, 0, api.ErrFull)
		notes(t, d, producer, 7, 1, 0, api.ErrFull)
		holds(t, d, m)
	}
	for producer := range m {
		m[producer] = noted{producer, 8, 9}
		notes(t, d, producer, producer, 8, 9, api.OK)
		holds(t, d, m)
	}
}

// Promise 18.2: producers rise, whatever the order in which they came.
func TestProducers(t *testing.T) {
	r := rand.New(rand.NewSource(3))
	for range 200 {
		d, l := dedup.New(), []int{1, 2, 3, 9, 10, 127, 128, 255, 256, 1 << 31, 1 << 32, 1<<32 + 1, most - 1, most}
		r.Shuffle(len(l), func(i, j int) { l[i], l[j] = l[j], l[i] })
		for i, producer := range l {
			notes(t, d, producer, 0, 1, 0, api.OK)
			if got := d.Producers(); !slices.Equal(got, slices.Sorted(slices.Values(l[:i+1]))) {
				t.Fatalf("Producers: %v, of %v", got, l[:i+1])
			}
		}
	}
}

// Promise 18.2: the next number is that behind the last batch, also where no batch may have it any more.
func TestNext(t *testing.T) {
	d := made(t, model{1: {most, 8, 0}, 2: {most - 8, 8, 0}, 3: {0, 1, 5}})
	for producer, want := range map[int]int{1: most + 8, 2: most, 3: 1, 4: 0, 0: 0, -1: 0, math.MinInt: 0, math.MaxInt: 0} {
		if n := d.Next(producer); n != want {
			t.Errorf("Next(%d): %d, not %d", producer, n, want)
		}
	}
	refuses(t, d, 1, most+8, 1, api.ErrArg)
	isNew(t, d, 2, most, 8)
}

// Promise 18.3: the bytes of tables.
func TestEncode(t *testing.T) {
	for _, c := range []struct {
		m    model
		want string
	}{
		{model{}, "\x00"}, {model{5: {0, 2, 7}, 3: {0, 1, 9}}, "\x02\x03\x00\x01\x09\x05\x00\x02\x07"}, {model{300: {128, 8, 127}}, "\x01\xac\x02\x80\x01\x08\x7f"},
		{model{most: {most, 1, mostOffset}}, "\x01\x80\x80\x80\x80\x80\x20\x80\x80\x80\x80\x80\x20\x01\x80\x80\x40"},
	} {
		if s := made(t, c.m).Encode(); s != c.want {
			t.Errorf("Encode of %v: %x, not %x", c.m, s, c.want)
		}
		holds(t, made(t, c.m), c.m)
	}
	holds(t, made(t, full()), full())
}

// Promise 18.3: bytes that end ahead of the table's end.
func TestDecodesShort(t *testing.T) {
	for _, m := range []model{{}, {300: {301, 3, 302}}, {1: {0, 1, 0}, 2: {0, 1, 0}}, full()} {
		s := m.bytes()
		for n := range len(s) {
			isNone(t, s[:n])
		}
	}
}

// Promise 18.3: too many producers, be they there or not.
func TestDecodesCounts(t *testing.T) {
	s := ""
	for i := range 300 {
		s += chains(i+1, 0, 1, 0)
	}
	for many := range 300 {
		if many > 16 {
			isNone(t, chains(many)+s)
			continue
		}
		m := model{}
		for i := range many {
			m[i+1] = noted{0, 1, 0}
		}
		if d, n, e := dedup.Decode(chains(many) + s); d == nil || n != 1+4*many || e != api.OK {
			t.Fatalf("of %d: %v, %d, %v", many, d, n, e)
		} else {
			holds(t, d, m)
		}
	}
	for _, many := range []uint64{1 << 32, 1<<32 + 1, most, most + 1, 1 << 62, 1 << 63, 1<<63 + 1, math.MaxUint64, math.MaxUint64 - 15} { // turned round it may be none either
		isNone(t, laid(many)+s)
		isNone(t, laid(many))
	}
}

// Promise 18.3: producers that do not rise.
func TestDecodesOrder(t *testing.T) {
	for _, l := range [][]int{{1, 1}, {2, 1}, {5, 5}, {most, most}, {most, 1}, {1, 3, 2}, {1, 3, 3}, {1, 2, 1}, {2, 3, 1}, {0, 1}, {0}, {1, 0}} {
		s := chains(len(l))
		for _, producer := range l {
			s += chains(producer, 0, 1, 0)
		}
		isNone(t, s)
		isNone(t, s+chains(most, 0, 1, 0))
	}
}

// Promise 18.3: numbers that may not be, and chains that are none, at each place.
func TestDecodesNumbers(t *testing.T) {
	tops := []uint64{most, most, 8, mostOffset}
	for ahead := range 3 {
		for at, top := range tops {
			begin, right := chains(ahead+1), []uint64{50, 3, 4, 5}
			for i := range ahead {
				begin += chains(i+1, 0, 1, 0)
			}
			right[at] = top
			if d, n, e := dedup.Decode(begin + laid(right...)); d == nil || n != len(begin+laid(right...)) || e != api.OK {
				t.Fatalf("Decode(%x): %v, %d, %v", begin+laid(right...), d, n, e)
			}
			for _, n := range []uint64{top + 1, top + 2, 2*top + 1, 1<<41 + 1, 1<<32 + top + 1, 1 << 62, 1<<62 + 4, 1 << 63, 1<<63 + 4, math.MaxUint64, math.MaxUint64 - 3, math.MaxUint64 - most} {
				wrong := slices.Clone(right)
				wrong[at] = n
				isNone(t, begin+laid(wrong...))
			}
			for _, way := range []string{"\x80\x00", "\x84\x00", "\x84\x80\x00", "\x80\x80\x80\x80\x80\x80\x80\x80\x80\x02", "\x84\x80\x80\x80\x80\x80\x80\x80\x80\x80\x00", "\x84", "\xff\xff\xff\xff\xff\xff\xff\xff\xff\xff"} {
				isNone(t, begin+laid(right[:at]...)+way)
				if way != "\x84" { // which, with a right number behind, is a chain
					isNone(t, begin+laid(right[:at]...)+way+laid(right[at+1:]...))
				}
			}
		}
		for _, at := range []int{0, 2} { // the least ones
			wrong := []uint64{50, 3, 4, 5}
			wrong[at] = 0
			s := chains(ahead + 1)
			for i := range ahead {
				s += chains(i+1, 0, 1, 0)
			}
			isNone(t, s+laid(wrong...))
		}
	}
	isNone(t, "\x80\x00")
	isNone(t, "\x81\x00\x01\x00\x01\x00")
	isNone(t, strings.Repeat("\x80", 5000))
	isNone(t, strings.Repeat("\xff", 5000))
}

// random is a model of a few producers.
func random(r *rand.Rand) model {
	m := model{}
	for range r.Intn(18) {
		m.note(1+r.Intn(most)>>r.Intn(41), noted{r.Intn(most+1) >> r.Intn(41), 1 + r.Intn(8), r.Intn(mostOffset+1) >> r.Intn(21)})
	}
	return m
}

// spoiled are bytes of which some are other ones.
func spoiled(r *rand.Rand, s string) string {
	b := []byte(s)
	for range r.Intn(3) {
		at := r.Intn(len(b))
		switch r.Intn(4) {
		case 0:
			b[at] ^= 1 << r.Intn(8)
		case 1:
			b[at] = byte(r.Intn(9))
		case 2:
			b = slices.Insert(b, at, byte(r.Intn(256)))
		case 3:
			b = append(slices.Delete(b, at, at+1), 1)
		}
	}
	return string(b)
}

// Promises 18.3 and 18.4: whatever the bytes are, what is told is what the words say, and its bytes are those.
func TestDecodeAgainstTheWords(t *testing.T) {
	r := rand.New(rand.NewSource(4))
	told := map[bool]int{}
	for range 20000 {
		s := spoiled(r, random(r).bytes()+strings.Repeat("\x01", r.Intn(5)))
		m, n, ok := cut(s)
		told[ok]++
		if !ok {
			isNone(t, s)
			continue
		}
		d, size, e := dedup.Decode(s)
		if d == nil || size != n || e != api.OK || d.Encode() != s[:n] {
			t.Fatalf("Decode(%x): %v, %d, %v, not %v, %d", s, d, size, e, m, n)
		}
		tells(t, d, m)
	}
	if told[true] < 1000 || told[false] < 1000 {
		t.Errorf("too few kinds of bytes: %v", told)
	}
}

// Promise 18.3 and rule R3: a copy, and what Decode and Producers tell, have memory of their own.
func TestCopies(t *testing.T) {
	for _, m := range []model{{}, {5: {0, 2, 7}}, {5: {0, 2, 7}, 6: {1, 1, 1}}} {
		d := made(t, m)
		c := d.Copy()
		a, _, _ := dedup.Decode(d.Encode())
		l := d.Producers()
		clear(l[:cap(l)])
		holds(t, d, m)
		notes(t, d, 5, 9, 1, 1, api.OK)
		notes(t, d, 8, 0, 1, 1, api.OK)
		holds(t, c, m)
		holds(t, a, m)
		of := maps.Clone(m)
		of[5], of[8] = noted{9, 1, 1}, noted{0, 1, 1}
		holds(t, d, of)
		notes(t, c, 77, 0, 1, 1, api.OK)
		notes(t, a, 78, 0, 1, 1, api.OK)
		holds(t, d, of)
		again := maps.Clone(m)
		again[77] = noted{0, 1, 1}
		holds(t, c, again)
	}
}

// Promises 18.1 to 18.3: of nil.
func TestNil(t *testing.T) {
	var d *dedup.Table
	for _, n := range []int{-1, 0, 1, 5, most, most + 1} {
		refuses(t, d, n, 0, 1, api.ErrState)
		refuses(t, d, 1, n, 1, api.ErrState)
		refuses(t, d, 1, 0, n, api.ErrState)
		notes(t, d, n, n, n, n, api.ErrState)
		notes(t, d, 1, 0, 1, n, api.ErrState)
		if d.Next(n) != 0 {
			t.Errorf("Next(%d): %d", n, d.Next(n))
		}
	}
	if l := d.Producers(); len(l) != 0 {
		t.Errorf("Producers: %v", l)
	}
	if s := d.Encode(); s != "\x00" {
		t.Errorf("Encode: %x", s)
	}
	if c := d.Copy(); c != nil {
		t.Errorf("Copy: %v", c)
	}
}

// Rule R1: no call dies, not even of a table that New never gave.
func TestZeroTable(t *testing.T) {
	d := new(dedup.Table)
	holds(t, d, nil)
	notes(t, d, 0, 0, 0, 0, api.ErrArg)
	c := d.Copy()
	notes(t, d, 5, 0, 1, 2, api.OK)
	holds(t, d, model{5: {0, 1, 2}})
	notes(t, c, 6, 0, 1, 2, api.OK)
	holds(t, c, model{6: {0, 1, 2}})
}

// Promise 18.5: a batch that was noted is told to be the last one, and again, till another one of its producer is; whatever others send.
func TestSentAgain(t *testing.T) {
	r := rand.New(rand.NewSource(5))
	for range 40 {
		d, m := dedup.New(), model{}
		for range 200 {
			producer, n := 1+r.Intn(18), 1+r.Intn(8)
			seq := d.Next(producer)
			if r.Intn(5) == 0 {
				seq = r.Intn(20)
			}
			offset, last, e := m.check(producer, seq, n)
			checks(t, d, producer, seq, n, offset, last, e)
			if e == api.OK && !last {
				b := noted{seq, n, r.Intn(mostOffset + 1)}
				notes(t, d, producer, b.seq, b.n, b.offset, m.note(producer, b))
			}
			for producer, b := range m {
				isLast(t, d, producer, b.seq, b.n, b.offset)
			}
		}
		if len(m) != 16 {
			t.Errorf("%d producers", len(m))
		}
		holds(t, d, m)
	}
}
