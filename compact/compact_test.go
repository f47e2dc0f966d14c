package compact_test

import (
	"math"
	"math/rand"
	"slices"
	"sort"
	"testing"

	"weighlock/api"
	"weighlock/compact"
)

// isLast tells whether a record with a key is the last one of it.
func isLast(l []api.Record, i int) bool {
	for _, r := range l[i+1:] {
		if r.Key == l[i].Key {
			return false
		}
	}
	return l[i].Key != ""
}

// kept are the records that are kept, by the words of the chapter.
func kept(l []api.Record, dead int) []api.Record {
	var k []api.Record
	for i, r := range l {
		tooOld := r.Gone && r.Tick < dead
		if r.Key == "" || isLast(l, i) && !tooOld {
			k = append(k, r)
		}
	}
	return k
}

// viewed is the view of records, by the words of the chapter.
func viewed(l []api.Record) []api.Record {
	var v []api.Record
	for i, r := range l {
		if isLast(l, i) && !r.Gone {
			v = append(v, r)
		}
	}
	sort.Slice(v, func(i, j int) bool { return v[i].Key < v[j].Key })
	return v
}

// keeps asks which records are kept.
func keeps(t *testing.T, l []api.Record, dead int, want []api.Record) {
	t.Helper()
	was := slices.Clone(l)
	for range 2 {
		k, n := compact.Keep(l, dead), compact.Garbage(l, dead)
		if !slices.Equal(k, want) || n != len(l)-len(want) {
			t.Fatalf("of %v are kept by the tick %d %v, and %d are not; but %v are", was, dead, k, n, want)
		}
		if !slices.Equal(l, was) {
			t.Fatalf("Keep or Garbage turned %v to %v", was, l)
		}
	}
}

// views asks for the view of records.
func views(t *testing.T, l []api.Record, want []api.Record) {
	t.Helper()
	was := slices.Clone(l)
	for range 2 {
		if v := compact.View(l); !slices.Equal(v, want) || !slices.Equal(l, was) {
			t.Fatalf("the view of %v: %v, not %v", was, v, want)
		}
	}
}

// asks asks of records all that the chapter says; it tells how many are not kept.
func asks(t *testing.T, l []api.Record, dead int) int {
	t.Helper()
	k := kept(l, dead)
	keeps(t, l, dead, k)
	keeps(t, k, dead, k)
	views(t, l, viewed(l))
	views(t, k, viewed(l))
	return len(l) - len(k)
}

// at are those of records that stand at these places.
func at(l []api.Record, places ...int) []api.Record {
	var some []api.Record
	for _, i := range places {
		some = append(some, l[i])
	}
	return some
}

// The example of the chapter.
func TestExample(t *testing.T) {
	l := []api.Record{{Offset: 0, Key: "a", Value: "1"}, {Offset: 1, Key: "b", Value: "2"}, {Offset: 2, Key: "a", Value: "3"}, {Offset: 3, Tick: 5, Key: "b", Gone: true}}
	keeps(t, l, 5, at(l, 2, 3))
	keeps(t, l, 6, at(l, 2))
	views(t, l, at(l, 2))
}

// Promise 21.1: of no records none are kept, and none are seen.
func TestNone(t *testing.T) {
	for _, dead := range []int{0, 1, -1, math.MaxInt, math.MinInt} {
		keeps(t, nil, dead, nil)
		keeps(t, []api.Record{}, dead, nil)
	}
	views(t, nil, nil)
	views(t, []api.Record{}, nil)
}

// Promise 21.1: records without a key are all kept, in order, and none of them is seen.
func TestWithoutKey(t *testing.T) {
	l := []api.Record{{Offset: 3, Value: "x"}, {Offset: 4}, {Offset: 5, Value: "x"}, {Offset: 6, Tick: 1, Key: "k"}, {Offset: 7, Tick: 1, Value: "y"}}
	for _, dead := range []int{0, 1, 2, math.MaxInt} {
		keeps(t, l, dead, l)
	}
	views(t, l, at(l, 3))
	views(t, l[:3], nil)
	gone := []api.Record{{Offset: 1, Gone: true}, {Offset: 2, Gone: true}} // tombstones of no key, that may not be
	keeps(t, gone, math.MaxInt, gone)
	views(t, gone, nil)
}

// Promise 21.1: of each key the last one is kept, wherever it stands, as old as it may be.
func TestLast(t *testing.T) {
	l := []api.Record{
		{Offset: 1, Tick: 9, Key: "b", Value: "1"}, {Offset: 2, Tick: 9, Key: "a", Value: "1"}, {Offset: 5, Tick: 9, Key: "b", Value: "1"}, {Offset: 6, Tick: 9, Value: "b"},
		{Offset: 7, Tick: 0, Key: "c", Value: "3"}, {Offset: 8, Tick: 0, Key: "b", Value: "1"}, {Offset: 9, Tick: 9, Key: "a", Value: "4"}, {Offset: 10, Tick: 9, Key: "a"},
	}
	for _, dead := range []int{0, 1, 9, 10, math.MaxInt, math.MinInt} {
		keeps(t, l, dead, at(l, 3, 4, 5, 7))
	}
	views(t, l, at(l, 7, 5, 4))
	falling := []api.Record{{Offset: 9, Tick: 9, Key: "a", Value: "1"}, {Offset: 9, Tick: 9, Key: "a", Value: "1"}, {Offset: 3, Tick: 2, Key: "a", Value: "0"}} // the place counts alone
	keeps(t, falling, 5, at(falling, 2))
	views(t, falling, at(falling, 2))
}

// Promise 21.1: a tombstone that is the last one is kept, but not if its tick is below the other one.
func TestTombstones(t *testing.T) {
	for _, tick := range []int{0, 1, 7, 1 << 40, -1, math.MaxInt, math.MinInt} {
		l := []api.Record{{Offset: 0, Tick: tick, Key: "a", Value: "1"}, {Offset: 1, Tick: tick, Key: "a", Gone: true}, {Offset: 2, Tick: tick, Key: "b"}}
		keeps(t, l, tick, at(l, 1, 2))
		views(t, l, at(l, 2))
		keeps(t, l, math.MinInt, at(l, 1, 2))
		if tick > math.MinInt {
			keeps(t, l, tick-1, at(l, 1, 2))
		}
		if tick < math.MaxInt {
			keeps(t, l, tick+1, at(l, 2))
			keeps(t, l, math.MaxInt, at(l, 2))
		}
	}
	back := []api.Record{{Offset: 0, Key: "a", Gone: true}, {Offset: 1, Key: "a", Value: "1"}, {Offset: 2, Key: "b", Gone: true}, {Offset: 3, Key: "b", Tick: 4, Gone: true}}
	keeps(t, back, 4, at(back, 1, 3)) // what stands ahead of the last one counts for nothing
	keeps(t, back, 0, at(back, 1, 3))
	keeps(t, back, 5, at(back, 1))
	views(t, back, at(back, 1))
	young := []api.Record{{Offset: 0, Tick: 9, Key: "a", Gone: true}, {Offset: 1, Tick: 3, Key: "a", Gone: true}} // the last one's tick counts, not the greatest
	keeps(t, young, 4, nil)
	keeps(t, young, 3, at(young, 1))
	views(t, young, nil)
}

// Promise 21.1, rule R5: keys are bytes, and rise as these do.
func TestKeys(t *testing.T) {
	rising := []string{"\x00", "\x00\x00", "\x00a", " ", "A", "Z", "a", "a\x00", "a\x00b", "aa", "ab", "b", "\x7f", "\x80", "\xc3", "\xc3\xa9", "\xe2\x82\xac", "\xef\xbf\xbd", "\xf0\x9f\x98\x80", "\xfe", "\xff", "\xff\x00"}
	r := rand.New(rand.NewSource(1))
	for range 200 {
		var l, want []api.Record
		for offset, i := range r.Perm(len(rising)) {
			l = append(l, api.Record{Offset: offset, Key: rising[i]})
		}
		for _, key := range rising {
			for _, x := range l {
				if x.Key == key {
					want = append(want, x)
				}
			}
		}
		keeps(t, l, 1, l)
		views(t, l, want)
	}
}

// Promise 21.1: what is told are the records whole.
func TestWhole(t *testing.T) {
	l := []api.Record{{Offset: 1, Tick: 2, Key: "k", Value: "v", Producer: 3, Seq: 4, From: 5}, {Offset: 6, Tick: 7, Key: "j", Gone: true, Producer: 8, Seq: 9, From: 10}, {Offset: 11, Tick: 12, Value: "w", Producer: 13, Seq: 14, From: 15}}
	keeps(t, l, 7, l)
	views(t, l, l[:1])
}

// Promises 21.1 and 21.2: all lists of up to five records of three kinds of keys.
func TestSmall(t *testing.T) {
	kinds := []api.Record{{}, {Key: "a", Value: "1"}, {Key: "b", Value: "1"}, {Key: "a", Tick: 1, Gone: true}, {Key: "a", Tick: 2, Gone: true}, {Key: "b", Tick: 1, Gone: true}}
	told := [6]int{}
	for many := range 6 {
		for n := range int(math.Pow(6, float64(many))) {
			l := make([]api.Record, many)
			for i := range l {
				l[i] = kinds[n%6]
				l[i].Offset = i
				n /= 6
			}
			for dead := range 4 {
				told[asks(t, l, dead)]++
			}
		}
	}
	if slices.Min(told[:5]) < 100 {
		t.Errorf("too few kinds of records: %v", told)
	}
}

// random are any records.
func random(r *rand.Rand) []api.Record {
	keys := []string{"", "a", "b", "c", "ab", "\xff", "\xfe", "A", "aa", "é"}[:1+r.Intn(10)]
	var l []api.Record
	for range r.Intn(30) {
		x := api.Record{Offset: r.Intn(100), Tick: r.Intn(20), Key: keys[r.Intn(len(keys))], Producer: r.Intn(3), Seq: r.Intn(3), From: r.Intn(3)}
		if x.Gone = r.Intn(3) == 0; !x.Gone {
			x.Value = []string{"", "1", "2"}[r.Intn(3)]
		}
		l = append(l, x)
	}
	return l
}

// Promises 21.1 to 21.3: of any records what is told is what the words say, and with others behind what is kept the view is that of all with these behind.
func TestAgainstTheWords(t *testing.T) {
	r := rand.New(rand.NewSource(2))
	told := map[string]int{}
	for range 20000 {
		l, behind, dead := random(r), random(r), r.Intn(22)
		switch n := asks(t, l, dead); {
		case len(l) == 0:
		case n == 0:
			told["all kept"]++
		case n == len(l):
			told["none kept"]++
		default:
			told["some kept"]++
		}
		whole := viewed(slices.Concat(l, behind))
		views(t, slices.Concat(l, behind), whole)
		views(t, slices.Concat(compact.Keep(l, dead), behind), whole)
		later := compact.Keep(slices.Concat(compact.Keep(l, dead), behind), dead+r.Intn(3))
		views(t, later, whole)
	}
	if len(told) != 3 || min(told["all kept"], told["none kept"], told["some kept"]) < 50 {
		t.Errorf("too few kinds of records: %v", told)
	}
}

// spoil turns records, and what a list has room for behind them.
func spoil(l []api.Record) {
	l = l[:cap(l)]
	for i := range l {
		l[i] = api.Record{Offset: -1, Key: "spoilt"}
	}
}

// Rule R3: what is told shares no memory with what was handed in, nor with what was told before.
func TestMemory(t *testing.T) {
	l := []api.Record{{Offset: 0}, {Offset: 1, Key: "a"}, {Offset: 2, Key: "b"}, {Offset: 3, Key: "c"}}
	was := slices.Clone(l)
	k, again := compact.Keep(l, 9), compact.Keep(l, 9)
	spoil(k)
	if !slices.Equal(l, was) || !slices.Equal(again, was) {
		t.Error("Keep's records are shared")
	}
	v, other := compact.View(l[1:]), compact.View(l[1:])
	spoil(v)
	if !slices.Equal(l, was) || !slices.Equal(other, was[1:]) {
		t.Error("View's records are shared")
	}
	spoil(l)
	if !slices.Equal(again, was) || !slices.Equal(other, was[1:]) {
		t.Error("what was told is of what was handed in")
	}
}

// Rule R1: no call dies, not even of records that may not be.
func TestWrongRecords(t *testing.T) {
	numbers := []int{math.MinInt, -1, 0, 1, 1 << 41, math.MaxInt}
	for _, n := range numbers {
		long := string(make([]byte, 1000))
		l := []api.Record{{Offset: n, Tick: n, Key: long, Value: "v", Gone: true, Producer: n, Seq: n, From: n}, {Offset: n, Tick: -n, Value: long, Gone: true}, {Offset: -n, Tick: n, Key: long + "k", Value: long}}
		for _, dead := range numbers {
			asks(t, l, dead)
		}
	}
}
