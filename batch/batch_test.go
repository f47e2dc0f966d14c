package batch_test

import (
	"encoding/binary"
	"math"
	"math/rand"
	"slices"
	"strings"
	"testing"

	"weighlock/api"
	"weighlock/batch"
	"weighlock/record"
)

const (
	most       = 1 << 40 // of numbers
	mostOffset = 1 << 20
)

// x is so many bytes.
func x(n int) string { return strings.Repeat("x", n) }

// weight is how many bytes pairs have, by the words of the chapter.
func weight(l []api.Pair) int {
	s := ""
	for _, p := range l {
		s += p.Key + p.Value
	}
	return len(s)
}

// verdict is what is told of pairs, by the words of the chapter.
func verdict(l []api.Pair) api.Errno {
	for _, p := range l {
		if len(p.Key) > 32 || len(p.Value) > 200 {
			return api.ErrArg
		}
		if p.Gone && (len(p.Key) == 0 || len(p.Value) > 0) {
			return api.ErrArg
		}
	}
	switch {
	case len(l) < 1:
		return api.ErrArg
	case len(l) > 8:
		return api.ErrLong
	case weight(l) > 500:
		return api.ErrLong
	}
	return api.OK
}

// text is a text with its length, by the words of chapter 1.
func text(s string) string { return string(binary.AppendUvarint(nil, uint64(len(s)))) + s }

// payload are records one behind the other, by the words of chapter 16.
func payload(l []api.Record) string {
	s := ""
	for _, r := range l {
		var b []byte
		for _, n := range []int{r.Offset, r.Tick, r.Producer, r.Seq, r.From} {
			b = binary.AppendUvarint(b, uint64(n))
		}
		gone := "\x00"
		if r.Gone {
			gone = "\x01"
		}
		s += string(b) + gone + text(r.Key) + text(r.Value)
	}
	return s
}

// behind are the records of pairs behind a head, by the words of the chapter; false, if one of them may not be.
func behind(head api.Record, l []api.Pair) ([]api.Record, bool) {
	var records []api.Record
	for i, p := range l {
		r := api.Record{Offset: head.Offset + i, Tick: head.Tick, Producer: head.Producer, Seq: head.Seq, From: head.From, Key: p.Key, Value: p.Value, Gone: p.Gone}
		if r.Producer != 0 {
			r.Seq += i
		}
		for j, n := range []int{r.Offset, r.Tick, r.Producer, r.Seq, r.From} {
			if n < 0 || n > []int{mostOffset, most, most, most, most}[j] {
				return nil, false
			}
		}
		if r.Producer == 0 && r.Seq > 0 {
			return nil, false
		}
		records = append(records, r)
	}
	return records, true
}

// refuses asks for why there are no records, and no payload.
func refuses(t *testing.T, head api.Record, l []api.Pair, want api.Errno) {
	t.Helper()
	was := slices.Clone(l)
	if r, e := batch.Records(head, l); len(r) != 0 || e != want {
		t.Fatalf("Records(%v, %v): %v, %v, not %v", head, l, r, e, want)
	}
	if s, e := batch.Payload(head, l); s != "" || e != want {
		t.Fatalf("Payload(%v, %v): %x, %v, not %v", head, l, s, e, want)
	}
	if !slices.Equal(l, was) {
		t.Fatalf("what was handed in was changed: %v, not %v", l, was)
	}
}

// makes asks for the records of a batch, and their payload, and for the batch and the records again from these.
func makes(t *testing.T, head api.Record, l []api.Pair, want []api.Record) {
	t.Helper()
	was := slices.Clone(l)
	for range 2 {
		r, e := batch.Records(head, l)
		if !slices.Equal(r, want) || e != api.OK {
			t.Fatalf("Records(%v, %v): %v, %v, not %v", head, l, r, e, want)
		}
		p := batch.Pairs(r)
		if !slices.Equal(p, was) || !slices.Equal(r, want) {
			t.Fatalf("Pairs(%v): %v, not %v", r, p, was)
		}
		clear(r[:cap(r)]) // what is told shares no memory with what is told next
		clear(p[:cap(p)])
	}
	s, e := batch.Payload(head, l)
	if s != payload(want) || e != api.OK || len(s) > 773 {
		t.Fatalf("Payload(%v, %v): %x, %v, not %x", head, l, s, e, payload(want))
	}
	if r, e := record.Unpack(s); !slices.Equal(r, want) || e != api.OK {
		t.Fatalf("Unpack(%x): %v, %v, not %v", s, r, e, want)
	}
	if !slices.Equal(l, was) {
		t.Fatalf("what was handed in was changed: %v, not %v", l, was)
	}
}

// asks asks for all that is told of pairs, and of them behind a head.
func asks(t *testing.T, head api.Record, l []api.Pair) api.Errno {
	t.Helper()
	want := verdict(l)
	if e := batch.Right(l); e != want {
		t.Fatalf("Right(%v): %v, not %v", l, e, want)
	}
	if n := batch.Weight(l); n != weight(l) {
		t.Fatalf("Weight(%v): %d, not %d", l, n, weight(l))
	}
	if want != api.OK {
		refuses(t, head, l, want)
		return want
	}
	records, ok := behind(head, l)
	if !ok {
		refuses(t, head, l, api.ErrRange)
		return api.ErrRange
	}
	makes(t, head, l, records)
	return api.OK
}

// wants asks for all that is told of pairs, and for what it must be.
func wants(t *testing.T, head api.Record, l []api.Pair, want api.Errno) {
	t.Helper()
	if e := asks(t, head, l); e != want {
		t.Fatalf("%v behind %v: %v, not %v", l, head, e, want)
	}
}

// heads are some of which any batch may stand behind.
func heads() []api.Record {
	return []api.Record{
		{}, {Offset: 10, Tick: 4, From: 2}, {Offset: 5, Producer: 2, Seq: 9}, {Producer: 1}, {Tick: most, From: most},
		{Offset: mostOffset - 7, Tick: most, Producer: most, Seq: most - 7, From: most},
		{Offset: 1, Producer: 3, Seq: 4, Key: "key", Value: "value"}, {Offset: 1, Tick: 1, Key: "key", Gone: true}, {Key: x(99), Value: x(999), Gone: true},
	}
}

// The example of the chapter.
func TestExample(t *testing.T) {
	l := []api.Pair{{Key: "a", Value: "b"}, {Value: "c"}}
	want := []api.Record{{Offset: 5, Producer: 2, Seq: 9, Key: "a", Value: "b"}, {Offset: 6, Producer: 2, Seq: 10, Value: "c"}}
	makes(t, api.Record{Offset: 5, Producer: 2, Seq: 9}, l, want)
}

// Promise 17.1: keys and values of each length, of tombstones and others, alone and among others.
func TestPairsThatMayBe(t *testing.T) {
	told := map[api.Errno]int{}
	for key := range 40 {
		for _, value := range []int{0, 1, 2, 32, 33, 100, 199, 200, 201, 202, 255, 256, 456, 500, 70000} {
			for _, gone := range []bool{false, true} {
				p := api.Pair{Key: x(key), Value: x(value), Gone: gone}
				told[asks(t, api.Record{Offset: 3}, []api.Pair{p})]++
				told[asks(t, api.Record{Offset: 3}, []api.Pair{{Key: "k", Value: "v"}, p, {Key: "k", Gone: true}})]++
			}
		}
	}
	for value := range 240 {
		wants(t, api.Record{}, []api.Pair{{Value: x(value)}}, []api.Errno{api.OK, api.ErrArg}[value/201])
		wants(t, api.Record{}, []api.Pair{{Key: x(32), Value: x(value)}}, []api.Errno{api.OK, api.ErrArg}[value/201])
	}
	if told[api.OK] < 400 || told[api.ErrArg] < 400 {
		t.Errorf("too few kinds of pairs: %v", told)
	}
	for b := range 256 {
		s := string([]byte{byte(b), 0, byte(b)})
		wants(t, api.Record{}, []api.Pair{{Key: s, Value: s + s}, {Key: s[:1], Gone: true}}, api.OK)
	}
}

// wrong are pairs that may not be.
func wrong() []api.Pair {
	return []api.Pair{{Key: x(33)}, {Key: x(33), Value: "v"}, {Key: x(33), Gone: true}, {Value: x(201)}, {Key: "k", Value: x(201)}, {Gone: true}, {Gone: true, Value: "v"}, {Gone: true, Key: "k", Value: "v"}, {Gone: true, Value: x(201)}}
}

// Promises 17.1 and 17.2: no pairs, and a pair that may not be at each place: told ahead of too many, of too many bytes, and of records that may not be.
func TestWrongPairs(t *testing.T) {
	wants(t, api.Record{}, nil, api.ErrArg)
	wants(t, api.Record{}, []api.Pair{}, api.ErrArg)
	wants(t, api.Record{Offset: -1}, nil, api.ErrArg)
	for n := 1; n <= 20; n++ {
		for at := range n {
			for _, p := range wrong() {
				for _, other := range []api.Pair{{}, {Key: "k", Gone: true}, {Key: x(32), Value: x(200)}} {
					l := slices.Repeat([]api.Pair{other}, n)
					l[at] = p
					wants(t, api.Record{}, l, api.ErrArg)
					wants(t, api.Record{Offset: -1}, l, api.ErrArg)
				}
			}
		}
	}
}

// Promises 17.1 and 17.2: from one pair to eight, and more.
func TestManyPairs(t *testing.T) {
	for _, p := range []api.Pair{{}, {Value: "v"}, {Key: "k"}, {Key: "k", Gone: true}, {Key: x(32), Value: x(30)}} {
		for _, head := range heads() {
			for n := 1; n <= 8; n++ {
				wants(t, head, slices.Repeat([]api.Pair{p}, n), api.OK)
			}
			for _, n := range []int{9, 10, 16, 17, 100, 256, 264} {
				wants(t, head, slices.Repeat([]api.Pair{p}, n), api.ErrLong)
			}
		}
	}
	wants(t, api.Record{Offset: -1}, make([]api.Pair, 9), api.ErrLong) // told ahead of records that may not be
}

// Promise 17.1: at most 500 bytes, be they keys' or values', of few pairs or many.
func TestBytes(t *testing.T) {
	for _, ahead := range [][]api.Pair{
		{{Value: x(200)}, {Value: x(200)}},
		{{Key: x(32), Value: x(168)}, {Key: x(32), Value: x(168)}},
		{{Key: x(32)}, {Key: x(32), Value: x(200)}, {Key: x(32), Gone: true}, {Key: x(32), Value: x(72)}},
		{{Key: x(32), Value: x(200)}, {Value: x(135)}, {Key: x(32)}, {Key: x(1)}, {}, {}, {}},
	} {
		if weight(ahead) != 400 {
			t.Fatalf("%d bytes", weight(ahead))
		}
		for n := range 201 {
			last := api.Pair{Key: x(min(n, 32)), Value: x(n - min(n, 32))}
			for _, l := range [][]api.Pair{append(slices.Clone(ahead), last), append([]api.Pair{last}, ahead...)} {
				wants(t, api.Record{Offset: 7}, l, []api.Errno{api.OK, api.ErrLong}[min(1, n/101)])
			}
		}
	}
	wants(t, api.Record{Offset: -1}, slices.Repeat([]api.Pair{{Value: x(167)}}, 3), api.ErrLong) // told ahead of records that may not be
	wants(t, api.Record{}, slices.Repeat([]api.Pair{{Key: x(32), Value: x(200)}}, 8), api.ErrLong)
}

// Promise 17.1: the weight of pairs that are no batch.
func TestWeight(t *testing.T) {
	if n := batch.Weight(nil); n != 0 {
		t.Errorf("of none: %d", n)
	}
	for _, c := range []struct {
		l    []api.Pair
		want int
	}{
		{[]api.Pair{}, 0}, {[]api.Pair{{}}, 0}, {[]api.Pair{{Key: "ab"}}, 2}, {[]api.Pair{{Value: "abc"}}, 3}, {[]api.Pair{{Key: "ab", Value: "abc"}, {Key: "a", Gone: true}}, 6},
		{[]api.Pair{{Gone: true, Value: x(300)}}, 300}, {slices.Repeat([]api.Pair{{Key: x(1000), Value: x(1)}}, 100), 100100},
	} {
		if n := batch.Weight(c.l); n != c.want {
			t.Errorf("Weight(%v): %d, not %d", c.l, n, c.want)
		}
	}
}

// Promise 17.2: of the head those count that the chapter names; what it has of a pair does not.
func TestHeads(t *testing.T) {
	l := []api.Pair{{Value: "one"}, {Key: "k", Value: "two"}, {Key: "k", Gone: true}}
	makes(t, api.Record{Offset: 10, Tick: 4, From: 2, Key: "ignored", Value: "too", Gone: true}, l, []api.Record{
		{Offset: 10, Tick: 4, From: 2, Value: "one"}, {Offset: 11, Tick: 4, From: 2, Key: "k", Value: "two"}, {Offset: 12, Tick: 4, From: 2, Key: "k", Gone: true},
	})
	makes(t, api.Record{Tick: 5, Producer: 6, From: 8, Key: x(33), Value: x(201)}, l, []api.Record{
		{Tick: 5, Producer: 6, From: 8, Value: "one"}, {Offset: 1, Tick: 5, Producer: 6, Seq: 1, From: 8, Key: "k", Value: "two"}, {Offset: 2, Tick: 5, Producer: 6, Seq: 2, From: 8, Key: "k", Gone: true},
	})
}

// Promise 17.2: ErrRange, as soon as one of the records may not be, the first or the last.
func TestRecordsThatMayNotBe(t *testing.T) {
	for n := 1; n <= 8; n++ {
		l := slices.Repeat([]api.Pair{{Key: "k", Value: "v"}}, n)
		for _, off := range []int{-9, -8, -2, -1, 0, 1, 2, 9} { // of the last record that may be
			want := []api.Errno{api.OK, api.ErrRange}[min(1, max(0, off))]
			wants(t, api.Record{Offset: mostOffset - n + 1 + off}, l, want)
			wants(t, api.Record{Producer: 1, Seq: most - n + 1 + off}, l, want)
			wants(t, api.Record{Offset: mostOffset - n + 1 + off, Producer: most, Seq: most - n + 1}, l, want)
		}
		for _, bad := range []int{-1, -2, -n, -most, math.MinInt, math.MinInt + 1, most + 1, most + 8, 1 << 62, math.MaxInt, math.MaxInt - 1, math.MaxInt - 7} {
			for _, head := range []api.Record{{Offset: bad}, {Tick: bad}, {Producer: bad}, {Producer: 1, Seq: bad}, {From: bad}, {Seq: bad}, {Producer: bad, Seq: bad}, {Offset: bad, Tick: bad, Producer: bad, Seq: bad, From: bad}} {
				wants(t, head, l, api.ErrRange)
			}
		}
		for _, seq := range []int{1, 2, 8, most} { // without a producer
			wants(t, api.Record{Seq: seq}, l, api.ErrRange)
			wants(t, api.Record{Producer: 1, Seq: seq - 1}, l, []api.Errno{api.OK, api.ErrRange}[min(1, max(0, seq-1+n-1-most))])
		}
	}
}

// Promise 17.2: a payload is never too long: the greatest numbers, and all bytes that there may be.
func TestGreatestPayload(t *testing.T) {
	head := api.Record{Offset: mostOffset - 7, Tick: most, Producer: most, Seq: most - 7, From: most}
	for _, l := range [][]api.Pair{
		{{Value: x(200)}, {Value: x(200)}, {Value: x(100)}, {}, {}, {}, {}, {}},
		{{Value: x(128)}, {Value: x(128)}, {Value: x(128)}, {Key: x(32), Value: x(84)}, {}, {}, {}, {}},
		{{Value: x(128)}, {Value: x(128)}, {Value: x(128)}, {Key: x(32), Gone: true}, {Key: x(32), Gone: true}, {Key: x(32), Gone: true}, {Key: x(20), Gone: true}, {}},
	} {
		wants(t, head, l, api.OK)
		if weight(l) != 500 || len(l) != 8 {
			t.Fatalf("%d bytes of %d pairs", weight(l), len(l))
		}
	}
}

// Promise 17.2: the pairs of records, also of such as may not be.
func TestPairsOfRecords(t *testing.T) {
	if l := batch.Pairs(nil); len(l) != 0 {
		t.Errorf("of none: %v", l)
	}
	for _, c := range []struct {
		l    []api.Record
		want []api.Pair
	}{
		{[]api.Record{}, nil}, {[]api.Record{{}}, []api.Pair{{}}},
		{[]api.Record{{Offset: 9, Tick: 8, Producer: 7, Seq: 6, From: 5, Key: "k", Value: "v"}, {Offset: 2, Key: "g", Gone: true}, {Key: "k"}, {Value: "v"}}, []api.Pair{{Key: "k", Value: "v"}, {Key: "g", Gone: true}, {Key: "k"}, {Value: "v"}}},
		{[]api.Record{{Offset: -1, Key: x(40), Value: x(300), Gone: true}, {Gone: true}}, []api.Pair{{Key: x(40), Value: x(300), Gone: true}, {Gone: true}}},
		{make([]api.Record, 1000), make([]api.Pair, 1000)},
	} {
		was := slices.Clone(c.l)
		if l := batch.Pairs(c.l); !slices.Equal(l, c.want) || !slices.Equal(c.l, was) {
			t.Errorf("Pairs(%v): %v, not %v", c.l, l, c.want)
		}
	}
}

// Rule R3: what is handed in is left as it is, also behind the list, and what is told is no piece of it.
func TestAnswersAreNew(t *testing.T) {
	all := []api.Pair{{Key: "a", Value: "1"}, {Key: "b", Value: "2"}, {Key: "c", Value: "3"}}
	r, e := batch.Records(api.Record{}, all[:2])
	if e != api.OK || len(r) != 2 || all[2] != (api.Pair{Key: "c", Value: "3"}) {
		t.Fatalf("%v, %v; %v", r, e, all)
	}
	p := batch.Pairs(r)
	all[0], all[1] = api.Pair{}, api.Pair{}
	if r[0].Key != "a" || r[1].Key != "b" {
		t.Errorf("%v", r)
	}
	clear(r)
	if p[0] != (api.Pair{Key: "a", Value: "1"}) || p[1] != (api.Pair{Key: "b", Value: "2"}) {
		t.Errorf("%v", p)
	}
}

// random are pairs that mostly are a batch, and a head behind that they mostly may stand.
func random(r *rand.Rand) (api.Record, []api.Pair) {
	number := func(most int) int {
		switch r.Intn(40) {
		case 0:
			return -1 - r.Intn(8)
		case 1, 2:
			return most - 9 + r.Intn(12)
		}
		return r.Intn(most+1) >> r.Intn(41)
	}
	head := api.Record{Offset: number(mostOffset), Tick: number(most), From: number(most), Key: x(r.Intn(40)), Value: x(r.Intn(9)), Gone: r.Intn(2) == 0}
	if r.Intn(3) > 0 {
		head.Producer, head.Seq = number(most), number(most)
	}
	text := func(most int) string {
		b := make([]byte, r.Intn(most+2)>>r.Intn(6))
		r.Read(b)
		return string(b)
	}
	var l []api.Pair
	for range r.Intn(10) {
		p := api.Pair{Key: text(32), Value: text(200)}
		if r.Intn(3) == 0 {
			p.Gone = true
			if r.Intn(9) > 0 {
				p.Key, p.Value = "k"+text(30), ""
			}
		}
		l = append(l, p)
	}
	return head, l
}

// Promises 17.1 to 17.3: of any heads and pairs what is told is what the words say; Pairs of Records is the batch, and Unpack of Payload are the records.
func TestAgainstTheWords(t *testing.T) {
	r := rand.New(rand.NewSource(1))
	told := map[api.Errno]int{}
	for range 20000 {
		head, l := random(r)
		told[asks(t, head, l)]++
	}
	for _, e := range []api.Errno{api.OK, api.ErrArg, api.ErrLong, api.ErrRange} {
		if told[e] < 500 {
			t.Errorf("too few kinds of batches: %v", told)
		}
	}
}
