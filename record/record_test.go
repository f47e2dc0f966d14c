package record_test

import (
	"encoding/binary"
	"math"
	"math/rand"
	"slices"
	"strings"
	"testing"

	"weighlock/api"
	"weighlock/record"
)

const (
	most        = 1 << 40 // of numbers
	mostOffset  = 1 << 20
	mostPayload = 773
)

// x is so many bytes.
func x(n int) string { return strings.Repeat("x", n) }

// text is a text with its length, by the words of chapter 1.
func text(s string) string { return string(binary.AppendUvarint(nil, uint64(len(s)))) + s }

// laid are fields as bytes, by the words of the chapter, be they a record's or not.
func laid(key, value string, numbers ...uint64) string {
	var b []byte
	for _, n := range numbers {
		b = binary.AppendUvarint(b, n)
	}
	return string(b) + text(key) + text(value)
}

// bytes are a record's, by the words of the chapter.
func bytes(r api.Record) string {
	gone := uint64(0)
	if r.Gone {
		gone = 1
	}
	return laid(r.Key, r.Value, uint64(r.Offset), uint64(r.Tick), uint64(r.Producer), uint64(r.Seq), uint64(r.From), gone)
}

// cut is what is read by the words of the chapter of the record with which bytes begin; false, if there is none that may be.
func cut(s string) (api.Record, int, bool) {
	at, all := 0, true
	number := func() uint64 {
		v, n := binary.Uvarint([]byte(s[at:]))
		if n <= 0 || n > 1 && s[at+n-1] == 0 { // none, or one of too many bytes
			all = false
			return 0
		}
		at += n
		return v
	}
	text := func() string {
		n := number()
		if n > uint64(len(s)-at) {
			all = false
			return ""
		}
		at += int(n)
		return s[at-int(n) : at]
	}
	var n [6]uint64
	for i := range n {
		n[i] = number()
	}
	key, value := text(), text()
	if n[0] > mostOffset || n[1] > most || n[2] > most || n[3] > most || n[4] > most || n[5] > 1 || n[2] == 0 && n[3] > 0 {
		return api.Record{}, 0, false
	}
	if !all || len(key) > 32 || len(value) > 200 || n[5] == 1 && (key == "" || value != "") {
		return api.Record{}, 0, false
	}
	return api.Record{Offset: int(n[0]), Tick: int(n[1]), Producer: int(n[2]), Seq: int(n[3]), From: int(n[4]), Gone: n[5] == 1, Key: key, Value: value}, at, true
}

// may asks for the bytes of a record that may be, and for the record from these.
func may(t *testing.T, r api.Record) {
	t.Helper()
	want := bytes(r)
	if s, e := record.Encode(r); s != want || e != api.OK || !record.May(r) || record.Size(r) != len(want) {
		t.Fatalf("Encode(%v): %x, %v, %v, %d, not %x", r, s, e, record.May(r), record.Size(r), want)
	}
	for _, behind := range []string{"", "\x00", "\xff", want, x(5000)} {
		tells(t, want+behind, r, len(want))
	}
	for n := range len(want) {
		tellsNone(t, want[:n])
	}
}

// mayNot asks that a record may not be, nor its fields as bytes.
func mayNot(t *testing.T, r api.Record) {
	t.Helper()
	if s, e := record.Encode(r); s != "" || e != api.ErrArg || record.May(r) || record.Size(r) != 0 {
		t.Fatalf("Encode(%v): %x, %v, %v, %d", r, s, e, record.May(r), record.Size(r))
	}
	tellsNone(t, bytes(r))
	tellsNone(t, bytes(r)+bytes(api.Record{}))
}

// tells asks for the record with which bytes begin.
func tells(t *testing.T, s string, r api.Record, size int) {
	t.Helper()
	if a, n, e := record.Decode(s); a != r || n != size || e != api.OK {
		t.Fatalf("Decode(%x): %v, %d, %v, not %v, %d", s, a, n, e, r, size)
	}
}

// tellsNone asks that bytes begin with no record.
func tellsNone(t *testing.T, s string) {
	t.Helper()
	if r, n, e := record.Decode(s); r != (api.Record{}) || n != 0 || e != api.ErrForm {
		t.Fatalf("Decode(%x): %v, %d, %v", s, r, n, e)
	}
}

// The example of the chapter.
func TestExample(t *testing.T) {
	r := api.Record{Offset: 1, Tick: 2, Key: "a", Value: "b"}
	if s, e := record.Encode(r); s != "\x01\x02\x00\x00\x00\x00\x01a\x01b" || e != api.OK || record.Size(r) != 10 {
		t.Errorf("%x, %v", s, e)
	}
}

// some is a record with all that one may have.
var some = api.Record{Offset: 300, Tick: 301, Key: "key", Value: "value", Producer: 302, Seq: 303, From: 304}

// gone is a tombstone.
var gone = api.Record{Offset: 5, Tick: 6, Key: "key", Gone: true, Producer: 7, Seq: 8, From: 9}

// with are records, in each of which something of one is another.
func with(r api.Record, change ...func(*api.Record)) []api.Record {
	var l []api.Record
	for _, do := range change {
		other := r
		do(&other)
		l = append(l, other)
	}
	return l
}

// fields are a record's numbers, and the most that each may be.
func fields(r *api.Record) ([]*int, []int) {
	return []*int{&r.Offset, &r.Tick, &r.Producer, &r.Seq, &r.From}, []int{mostOffset, most, most, most, most}
}

// Promises 16.1 and 16.2: each number from its least to its most, and beyond.
func TestNumbers(t *testing.T) {
	for _, from := range []api.Record{some, gone, {Producer: 1}} {
		for i := range 5 {
			r := from
			field, top := fields(&r)
			for _, n := range []int{0, 1, 127, 128, 1 << 14, 1<<20 - 1, 1 << 20, top[i] - 1, top[i]} {
				*field[i] = n
				if i == 2 && n == 0 {
					r.Seq = 0
				}
				may(t, r)
			}
			r.Seq = from.Seq
			for _, n := range []int{-1, -2, -128, top[i] + 1, top[i] + 2, 2 * top[i], 1<<62 + 1, math.MaxInt, math.MinInt, math.MinInt + 1, -most} {
				*field[i] = n
				mayNot(t, r)
			}
		}
	}
}

// Promises 16.1 and 16.2: a Seq is 0, if there is no Producer; a From need not be.
func TestSeqWithoutProducer(t *testing.T) {
	for _, r := range []api.Record{{}, {From: 1}, {From: most}, {Producer: 1, Seq: most}, {Producer: most}, {Producer: most, Seq: 1, From: 1}} {
		may(t, r)
	}
	for _, r := range []api.Record{{Seq: 1}, {Seq: most}, {Seq: 1, From: 1}, {Seq: -1}, {Producer: -1, Seq: 1}} {
		mayNot(t, r)
	}
}

// Promises 16.1 and 16.2: keys and values of each length, of any bytes.
func TestTexts(t *testing.T) {
	for size := range 240 {
		for i, r := range with(some, func(r *api.Record) { r.Key = x(size) }, func(r *api.Record) { r.Value = x(size) }, func(r *api.Record) { r.Key, r.Value = x(32), x(size) }, func(r *api.Record) { r.Key, r.Value = x(size), "" }) {
			if size <= []int{32, 200, 200, 32}[i] {
				may(t, r)
			} else {
				mayNot(t, r)
			}
		}
	}
	for b := range 256 {
		s := string([]byte{byte(b), 0, byte(b)})
		may(t, api.Record{Key: s, Value: s + s})
	}
	mayNot(t, api.Record{Key: x(70000)})
	mayNot(t, api.Record{Value: x(70000)})
}

// Promises 16.1 and 16.2: a tombstone has a Key, and no Value.
func TestTombstones(t *testing.T) {
	for size := range 40 {
		r := gone
		r.Key = x(size)
		if size >= 1 && size <= 32 {
			may(t, r)
		} else {
			mayNot(t, r)
		}
		r.Value = "v"
		mayNot(t, r)
	}
	for _, r := range []api.Record{{Gone: true}, {Gone: true, Value: "v"}, {Gone: true, Key: "k", Value: x(200)}} {
		mayNot(t, r)
	}
	may(t, api.Record{Gone: true, Key: "k"})
	may(t, api.Record{Gone: true, Key: "\x00"})
}

// Promise 16.2: bytes that are no record's.
func TestDecodesErrors(t *testing.T) {
	for _, s := range []string{
		"", "\x00", "\x80", "\xff", x(4), x(400), "\xff\xff\xff\xff\xff\xff\xff\xff\xff\xff\xff",
		laid("k", "v", 0, 0, 0, 0, 0, 2), laid("k", "", 0, 0, 0, 0, 0, 2), laid("k", "", 0, 0, 0, 0, 0, 3), laid("k", "", 0, 0, 0, 0, 0, 257), laid("k", "", 0, 0, 0, 0, 0, 1<<32+1), laid("k", "", 0, 0, 0, 0, 0, math.MaxUint64),
		laid("k", "v", 0, 0, 0, 0), laid("k", "v", 0, 0, 0, 0, 0),
		"\x00\x00\x00\x00\x00\x00\x02k", "\x00\x00\x00\x00\x00\x00\x00\x05vvvv", "\x00\x00\x00\x00\x00\x00\x00", "\x00\x00\x00\x00\x00\x00\x00\x80",
		"\x00\x00\x00\x00\x00\x00\xff\xff\xff\xff\xff\xff\xff\xff\xff\x01k", "\x00\x00\x00\x00\x00\x00\x00\xff\xff\xff\xff\xff\xff\xff\xff\xff\x01v", "\x00\x00\x00\x00\x00\x00\x80\x80\x80\x80\x80\x80\x80\x80\x80\x01k\x00",
	} {
		tellsNone(t, s)
	}
	long := bytes(some) // two bytes of each number
	for i := range 5 {
		for _, way := range []string{"\x80\x00", "\x85\x00", "\x85\x80\x00", "\x80\x80\x80\x80\x80\x80\x80\x80\x80\x02", "\x80\x80\x80\x80\x80\x80\x80\x80\x80\x80\x00"} { // a number has but one chain
			tellsNone(t, long[:2*i]+way+long[2*i+2:])
		}
		for _, n := range []uint64{1 << 63, 1<<63 + 5, math.MaxUint64, math.MaxUint64 - most, 1<<41 + 5, 1 << 62} { // turned round it may be none either
			numbers := []uint64{1, 1, 1, 1, 1, 0}
			numbers[i] = n
			tellsNone(t, laid("k", "v", numbers...))
		}
	}
	tellsNone(t, "\x00\x00\x00\x00\x00\x80\x00\x00\x00")
	tellsNone(t, "\x00\x00\x00\x00\x00\x81\x00\x01k\x00")
}

// random is a record that may be, but for a rare one.
func random(r *rand.Rand) api.Record {
	number := func() int { return r.Intn(most+1) >> r.Intn(41) }
	text := func(most int) string {
		b := make([]byte, r.Intn(most+1)>>r.Intn(5))
		r.Read(b)
		return string(b)
	}
	a := api.Record{Offset: r.Intn(mostOffset+1) >> r.Intn(21), Tick: number(), Producer: number(), Seq: number(), From: number(), Key: text(32), Value: text(200)}
	if a.Producer == 0 {
		a.Seq = 0
	}
	if r.Intn(3) == 0 && a.Key != "" {
		a.Gone, a.Value = true, ""
	}
	return a
}

// spoiled are bytes of which some are other ones.
func spoiled(r *rand.Rand, s string) string {
	b := []byte(s)
	for range r.Intn(3) {
		at := r.Intn(len(b))
		switch r.Intn(4) {
		case 0:
			b[at] ^= 1 << r.Intn(8)
		case 1:
			b[at] = byte(r.Intn(3))
		case 2:
			b = slices.Insert(b, at, byte(r.Intn(256)))
		case 3:
			b = append(slices.Delete(b, at, at+1), 0)
		}
	}
	return string(b)
}

// Promises 16.2 and 16.4: whatever the bytes are, what is told is what the words say, and its bytes are those.
func TestDecodeAgainstTheWords(t *testing.T) {
	r := rand.New(rand.NewSource(1))
	told := map[bool]int{}
	for range 60000 {
		s := spoiled(r, bytes(random(r))+x(r.Intn(3)))
		a, n, ok := cut(s)
		told[ok]++
		if !ok {
			tellsNone(t, s)
			continue
		}
		tells(t, s, a, n)
		if again, e := record.Encode(a); again != s[:n] || e != api.OK {
			t.Fatalf("Encode(%v): %x, %v, not %x", a, again, e, s[:n])
		}
	}
	if told[true] < 1000 || told[false] < 1000 {
		t.Errorf("too few kinds of bytes: %v", told)
	}
}

// Promise 16.4: Decode of Encode is the record, whatever stands behind.
func TestThereAndBack(t *testing.T) {
	r := rand.New(rand.NewSource(2))
	for range 3000 {
		may(t, random(r))
	}
}

// packs asks for a batch's payload, and for the batch from it.
func packs(t *testing.T, l []api.Record) {
	t.Helper()
	want := payload(l)
	was := slices.Clone(l)
	if s, e := record.Pack(l); s != want || e != api.OK || !slices.Equal(l, was) {
		t.Fatalf("Pack(%v): %x, %v, not %x", l, s, e, want)
	}
	for range 2 {
		m, e := record.Unpack(want)
		if !slices.Equal(m, l) || e != api.OK {
			t.Fatalf("Unpack(%x): %v, %v, not %v", want, m, e, l)
		}
		clear(m[:cap(m)]) // what is told shares no memory with what is told next
	}
}

// refuses asks for why records are no batch, and that their bytes are no payload.
func refuses(t *testing.T, l []api.Record, want api.Errno) {
	t.Helper()
	if s, e := record.Pack(l); s != "" || e != want {
		t.Fatalf("Pack(%v): %x, %v, not %v", l, s, e, want)
	}
	isNone(t, payload(l))
}

// isNone asks that bytes are the payload of no batch.
func isNone(t *testing.T, s string) {
	t.Helper()
	if l, e := record.Unpack(s); len(l) != 0 || e != api.ErrForm {
		t.Fatalf("Unpack(%x): %v, %v", s, l, e)
	}
}

// payload are records' bytes, one behind the other.
func payload(l []api.Record) string {
	s := ""
	for _, r := range l {
		s += bytes(r)
	}
	return s
}

// batch are so many records, with offsets from one on.
func batch(n, from int, r api.Record) []api.Record {
	var l []api.Record
	for i := range n {
		r.Offset = from + i
		l = append(l, r)
	}
	return l
}

// Promise 16.3: from one record to eight, with and without gaps between their offsets.
func TestPack(t *testing.T) {
	for n := 1; n <= 8; n++ {
		for _, from := range []int{0, 1, 120, 1 << 14, mostOffset - 7} {
			packs(t, batch(n, from, some))
			packs(t, batch(n, from, gone))
			packs(t, batch(n, from, api.Record{}))
		}
	}
	packs(t, []api.Record{{Offset: 0}, {Offset: mostOffset}})
	packs(t, []api.Record{{Offset: 5, Tick: 9, Key: "k"}, {Offset: 7, Tick: 3, Gone: true, Key: "k"}, {Offset: 1000, Producer: 2, Seq: 7}, {Offset: 1001, Producer: 1, Seq: 3, From: 8}})
}

// Promise 16.3: too many records, and too many bytes.
func TestPacksLimits(t *testing.T) {
	for _, n := range []int{9, 10, 16, 100} {
		refuses(t, batch(n, 0, api.Record{}), api.ErrLong)
		refuses(t, batch(n, 0, gone), api.ErrLong)
	}
	ahead := []api.Record{{Key: x(32), Value: x(200)}, {Offset: 1, Key: x(32), Value: x(200)}, {Offset: 2, Key: x(32), Value: x(200)}}
	for size := range 100 { // what is left for the last one
		l := append(slices.Clone(ahead), api.Record{Offset: 3, Value: x(size)})
		if len(payload(l)) > mostPayload {
			refuses(t, l, api.ErrLong)
		} else {
			packs(t, l)
		}
	}
	for n := 1; n <= 8; n++ { // the most bytes that records have
		l := batch(n, mostOffset-7, api.Record{Tick: most, Producer: most, Seq: most, From: most, Key: x(32), Value: x(200)})
		if len(payload(l)) > mostPayload {
			refuses(t, l, api.ErrLong)
		} else {
			packs(t, l)
		}
	}
	exact := append(slices.Clone(ahead), api.Record{Offset: 3, Value: x(mostPayload - len(payload(ahead)) - 8)})
	if len(payload(exact)) != mostPayload {
		t.Fatalf("%d bytes", len(payload(exact)))
	}
	packs(t, exact)
	exact[3].Value += "x"
	refuses(t, exact, api.ErrLong)
}

// Promise 16.3: no records, such as may not be, and offsets that do not rise.
func TestPacksErrors(t *testing.T) {
	refuses(t, nil, api.ErrArg)
	refuses(t, []api.Record{}, api.ErrArg)
	wrong := with(some, func(r *api.Record) { r.Tick = -1 }, func(r *api.Record) { r.From = -1 }, func(r *api.Record) { r.Producer = 0 }, func(r *api.Record) { r.Key = x(33) }, func(r *api.Record) { r.Gone = true })
	for n := 1; n <= 12; n++ { // told ahead of too many
		for at := range n {
			for _, r := range wrong {
				l := batch(n, 10, api.Record{})
				r.Offset = l[at].Offset
				l[at] = r
				refuses(t, l, api.ErrArg)
			}
			for _, by := range []int{0, -1, -10} {
				l := batch(n, 10, gone)
				if at == 0 {
					continue
				}
				l[at].Offset = l[at-1].Offset + by
				refuses(t, l, api.ErrArg)
			}
		}
	}
	refuses(t, batch(1, -1, some), api.ErrArg)
	refuses(t, batch(2, -1, some), api.ErrArg)
	refuses(t, batch(2, mostOffset, some), api.ErrArg)
	refuses(t, []api.Record{{Value: x(201)}}, api.ErrArg)
	big := batch(8, 0, api.Record{Value: x(200)})
	refuses(t, big, api.ErrLong)
	big[7].Offset = 6
	refuses(t, big, api.ErrArg) // told ahead of too many bytes
	big[7].Offset, big[0].Seq = 7, 1
	refuses(t, big, api.ErrArg)
}

// Promise 16.3: bytes that are no batch's, and those with something behind, or less.
func TestUnpacksErrors(t *testing.T) {
	isNone(t, "")
	isNone(t, x(5))
	isNone(t, x(mostPayload))
	isNone(t, x(100000))
	for n := 1; n <= 8; n++ {
		l := batch(n, 3, some)
		s := payload(l)
		for size := range len(s) {
			if size%(len(s)/n) != 0 {
				isNone(t, s[:size])
			}
		}
		for _, behind := range []string{"\x00", "\xff", "x", bytes(some)[1:], bytes(l[0]), bytes(l[n-1])} {
			isNone(t, s+behind)
		}
		isNone(t, bytes(l[0])+s)
		isNone(t, bytes(some)+s)
	}
}

// unpacked is the batch of a payload, by the words of the chapter; false, if there is none.
func unpacked(s string) ([]api.Record, bool) {
	var l []api.Record
	for rest := s; rest != ""; {
		r, n, ok := cut(rest)
		if !ok || len(l) > 0 && r.Offset <= l[len(l)-1].Offset {
			return nil, false
		}
		l, rest = append(l, r), rest[n:]
	}
	return l, len(l) >= 1 && len(l) <= 8 && len(s) <= mostPayload
}

// Promises 16.3 and 16.4: of any records and any bytes, packed and unpacked there and back.
func TestBatchesThereAndBack(t *testing.T) {
	r := rand.New(rand.NewSource(3))
	told := map[bool]int{}
	for range 20000 {
		var l []api.Record
		for range 1 + r.Intn(9) {
			l = append(l, random(r))
			l[len(l)-1].Offset = r.Intn(300)
		}
		if r.Intn(9) > 0 {
			slices.SortFunc(l, func(a, b api.Record) int { return a.Offset - b.Offset })
		}
		s := payload(l)
		if r.Intn(2) == 0 {
			s = spoiled(r, s)
		}
		m, ok := unpacked(s)
		told[ok]++
		if !ok {
			isNone(t, s)
			continue
		}
		packs(t, m)
		if payload(m) != s {
			t.Fatalf("%x, not %x", payload(m), s)
		}
	}
	if told[true] < 1000 || told[false] < 1000 {
		t.Errorf("too few kinds of batches: %v", told)
	}
}
