package retain_test

import (
	"encoding/binary"
	"math"
	"math/rand"
	"slices"
	"strings"
	"testing"

	"weighlock/api"
	"weighlock/retain"
)

const most = 1 << 40

// x is so many bytes.
func x(n int) string { return strings.Repeat("x", n) }

// bytes is how many a record that may be has, by the words of chapters 1 and 16.
func bytes(r api.Record) int {
	var b []byte
	for _, n := range []int{r.Offset, r.Tick, r.Producer, r.Seq, r.From, 0, len(r.Key), len(r.Value)} {
		b = binary.AppendUvarint(b, uint64(n))
	}
	return len(b) + len(r.Key) + len(r.Value)
}

// bounded is a number that counts as another one, if it is below 0 or above the most.
func bounded(n int) int {
	if n < 0 {
		return 0
	}
	if n > most {
		return most
	}
	return n
}

// stay tells whether records, of which none ahead stays, may all stay.
func stay(l []api.Record, now, age, size int) bool {
	sum := 0
	for _, r := range l {
		sum += bytes(r)
	}
	young := bounded(age) == 0 || bounded(now)-l[0].Tick <= bounded(age)
	return young && (bounded(size) == 0 || sum <= bounded(size))
}

// first is how many records go, by the words of the chapter: as few as can be.
func first(l []api.Record, now, age, size int) int {
	for i := range l {
		if stay(l[i:], now, age, size) {
			return i
		}
	}
	return len(l)
}

// keeps asks from which offset on records stay.
func keeps(t *testing.T, l []api.Record, next, now, age, size, want int) {
	t.Helper()
	was := slices.Clone(l)
	for range 2 {
		if n := retain.Start(l, next, now, age, size); n != want || !slices.Equal(l, was) {
			t.Fatalf("Start(%v, %d, %d, %d, %d): %d, not %d", was, next, now, age, size, n, want)
		}
	}
}

// asks asks from which record on they stay, and whether all of these stay then, and at a later tick no more; it tells how many go.
func asks(t *testing.T, l []api.Record, now, age, size int) int {
	t.Helper()
	const next = 1 << 20
	offset := func(i int) int {
		if i == len(l) {
			return next
		}
		return l[i].Offset
	}
	gone := first(l, now, age, size)
	keeps(t, l, next, now, age, size, offset(gone))
	keeps(t, l[gone:], next, now, age, size, offset(gone))
	for _, later := range []int{1, 2, 5, most} {
		if now > most-later {
			continue
		}
		if n := retain.Start(l, next, now+later, age, size); n < offset(gone) {
			t.Fatalf("of %v stays more at the tick %d than at %d: from %d on, not %d", l, now+later, now, n, offset(gone))
		}
	}
	return gone
}

// made are records of these ticks, with offsets that have gaps.
func made(ticks ...int) []api.Record {
	var l []api.Record
	for i, tick := range ticks {
		l = append(l, api.Record{Offset: 10 + i*i, Tick: tick})
	}
	return l
}

// sized are records of these bytes, of which each has 8 at least.
func sized(sizes ...int) []api.Record {
	l := made(make([]int, len(sizes))...)
	for i, size := range sizes {
		l[i].Value = x(size - 8)
	}
	return l
}

// The example of the chapter.
func TestExample(t *testing.T) {
	keeps(t, made(1, 5, 3), 30, 10, 6, 0, 11)
}

// Promise 20.1: which ages and sizes may be.
func TestRight(t *testing.T) {
	numbers := map[int]bool{0: true, 1: true, 2: true, 1 << 20: true, most - 1: true, most: true, -1: false, -2: false, -most: false, most + 1: false, 2 * most: false, 1 << 62: false, math.MaxInt: false, math.MinInt: false}
	for age, one := range numbers {
		for size, other := range numbers {
			if right := retain.Right(age, size); right != (one && other) {
				t.Errorf("Right(%d, %d): %v", age, size, right)
			}
		}
	}
}

// Promise 20.1: of no records next is told, as it was handed in.
func TestNext(t *testing.T) {
	for _, next := range []int{0, 1, 7, 1 << 20, 1<<20 + 1, -1, most + 1, math.MaxInt, math.MinInt} {
		for _, n := range []int{0, 1, -1, most} {
			keeps(t, nil, next, n, n, n, next)
			keeps(t, []api.Record{}, next, n, n, n, next)
		}
		keeps(t, made(1, 2, 3), next, 10, 6, 0, next)
		keeps(t, made(9, 9, 9), next, 10, 6, 7, next)
	}
}

// Promise 20.1: by an age alone, to the tick.
func TestAge(t *testing.T) {
	for now := range 30 {
		for age := 1; age < 30; age++ {
			for tick := range 30 {
				want := []int{10, 99}[min(1, max(0, now-tick-age))]
				keeps(t, made(tick), 99, now, age, 0, want)
			}
		}
	}
	for _, c := range []struct {
		ticks          []int
		now, age, want int
	}{
		{[]int{1, 2, 3, 4}, 10, 9, 10}, {[]int{1, 2, 3, 4}, 10, 8, 11}, {[]int{1, 2, 3, 4}, 10, 6, 19}, {[]int{1, 2, 3, 4}, 10, 5, 99},
		{[]int{9, 1, 1, 1}, 10, 1, 10}, {[]int{1, 9, 1, 1}, 10, 1, 11}, {[]int{9, 1, 9, 1}, 10, 1, 10}, {[]int{1, 1, 1, 9}, 10, 1, 19}, // older ones behind it stay with it
		{[]int{50, 1}, 10, 1, 10}, {[]int{1, 50}, 10, 1, 11}, {[]int{11, 12}, 10, 1, 10}, // of a tick that comes yet
		{[]int{0, most}, most, 1, 11}, {[]int{0, most}, most, most, 10}, {[]int{0, most}, most, most - 1, 11}, {[]int{most, 0}, 0, 1, 10},
	} {
		keeps(t, made(c.ticks...), 99, c.now, c.age, 0, c.want)
	}
}

// Promise 20.1: by a size alone, to the byte.
func TestSize(t *testing.T) {
	for _, c := range []struct {
		sizes      []int
		size, want int
	}{
		{[]int{9, 10, 11}, 30, 10}, {[]int{9, 10, 11}, 29, 11}, {[]int{9, 10, 11}, 21, 11}, {[]int{9, 10, 11}, 20, 14}, {[]int{9, 10, 11}, 11, 14}, {[]int{9, 10, 11}, 10, 99}, {[]int{9, 10, 11}, 1, 99},
		{[]int{8, 90, 8}, 97, 14}, {[]int{8, 90, 8}, 98, 11}, {[]int{8, 90, 8}, 105, 11}, {[]int{8, 90, 8}, 106, 10}, // one that is too great keeps those ahead of it away
		{[]int{8, 8, 90}, 89, 99}, {[]int{8, 8, 90}, 90, 14}, {[]int{8}, 7, 99}, {[]int{8}, 8, 10}, {[]int{8}, most, 10},
	} {
		keeps(t, sized(c.sizes...), 99, 5, 0, c.size, c.want)
	}
	l := []api.Record{{Offset: 300, Tick: 301, Producer: 302, Seq: 303, From: 304, Key: "key", Value: x(200)}, {Offset: 301, Key: x(32), Gone: true}}
	for size := 1; size < 300; size++ {
		want := []int{302, 301, 300}[min(1, size/41)+min(1, size/(41+217))]
		keeps(t, l, 302, 0, 0, size, want)
		asks(t, l, 0, 0, size)
	}
}

// Promise 20.1: by both at a time.
func TestAgeAndSize(t *testing.T) {
	l := sized(10, 10, 10, 10)
	for i, tick := range []int{5, 2, 8, 1} {
		l[i].Tick = tick
	}
	for _, c := range []struct{ age, size, want int }{
		{5, 40, 10}, {5, 39, 14}, {4, 40, 14}, {2, 30, 14}, {2, 29, 14}, {2, 20, 14}, {2, 19, 99}, {8, 39, 11}, {8, 30, 11}, {8, 29, 14}, {9, 10, 19}, {9, 9, 99}, {8, 10, 99}, {1, 40, 99}, {7, 30, 14},
	} {
		keeps(t, l, 99, 10, c.age, c.size, c.want)
	}
}

// Promise 20.1: what is below 0 counts as 0, what is above the most as that.
func TestBounds(t *testing.T) {
	l := made(1, 2, most)
	above := []int{most + 1, most + 7, 2 * most, 1 << 62, math.MaxInt}
	below := []int{-1, -2, -most, math.MinInt, math.MinInt + 1}
	for _, n := range above {
		keeps(t, l, 99, n, 1, 0, 14) // the last one is of that tick
		keeps(t, l, 99, n, most-2, 0, 11)
		keeps(t, l, 99, n, most-1, 0, 10)
		keeps(t, l, 99, n, n, n, 10)
		keeps(t, l, 99, 10, n, n, 10)
		keeps(t, made(most), 99, n, 1, 0, 10)
		keeps(t, made(most-1), 99, n, 1, 0, 10)
		keeps(t, made(most-2), 99, n, 1, 0, 99)
	}
	for _, n := range below {
		keeps(t, l, 99, n, 1, 0, 10) // all are of ticks that come yet
		keeps(t, made(0), 99, n, 1, 0, 10)
		keeps(t, l, 99, most, n, n, 10)
		keeps(t, l, 99, most, 1, n, 14)
		keeps(t, sized(9, 9), 99, most, n, 9, 11)
		keeps(t, l, n, most, 0, 1, n)
	}
}

// Promise 20.2: with an age and a size of 0 all stay.
func TestAllStay(t *testing.T) {
	for _, l := range [][]api.Record{made(1), made(3, 2, 1), sized(232, 232, 8), made(0, most, 0)} {
		for _, now := range []int{0, 1, 99, most, -1, math.MaxInt} {
			keeps(t, l, 99, now, 0, 0, 10)
			keeps(t, l, 99, now, -1, -1, 10)
		}
	}
}

// Promises 20.1 and 20.2: all lists of four ticks and sizes, by all ages and sizes that tell them apart.
func TestSmall(t *testing.T) {
	told := [5]int{}
	for kind := range 6 * 6 * 6 * 6 {
		l := made(0, 0, 0, 0)
		for i := range l {
			l[i].Tick, l[i].Value = kind%3, x(kind%6/3)
			kind /= 6
		}
		for now := range 5 {
			for age := range 6 {
				for _, size := range []int{0, 7, 8, 9, 15, 16, 17, 18, 24, 25, 26, 27, 31, 32, 33, 34, 35, 36} {
					told[asks(t, l, now, age, size)]++
				}
			}
		}
	}
	if slices.Min(told[:]) < 1000 {
		t.Errorf("too few kinds of records: %v", told)
	}
}

// random are records with rising offsets that may be.
func random(r *rand.Rand) []api.Record {
	number := func() int { return r.Intn(most+1) >> r.Intn(41) }
	var l []api.Record
	offset := r.Intn(300)
	for range r.Intn(20) {
		a := api.Record{Offset: offset, Tick: r.Intn(200), Producer: number(), From: number(), Key: x(r.Intn(33)), Value: x(r.Intn(201) >> r.Intn(8))}
		if r.Intn(9) == 0 {
			a.Tick = number()
		}
		if a.Producer != 0 {
			a.Seq = number()
		}
		if a.Key != "" && r.Intn(3) == 0 {
			a.Gone, a.Value = true, ""
		}
		l = append(l, a)
		offset += 1 + r.Intn(3)>>1*r.Intn(200)
	}
	return l
}

// Promises 20.1 and 20.2: of any records what is told is what the words say.
func TestAgainstTheWords(t *testing.T) {
	r := rand.New(rand.NewSource(1))
	told := map[string]int{}
	for range 60000 {
		l := random(r)
		now, age, size := r.Intn(250), r.Intn(220), r.Intn(3000)>>r.Intn(8)
		switch r.Intn(12) {
		case 0:
			now = r.Intn(4*most) - most
		case 1:
			age = -r.Intn(3)
		case 2:
			size = -r.Intn(3)
		}
		switch gone := asks(t, l, now, age, size); {
		case len(l) == 0:
		case gone == 0:
			told["all stay"]++
		case gone == len(l):
			told["none stays"]++
		default:
			told["some stay"]++
		}
	}
	if len(told) != 3 || min(told["all stay"], told["none stays"], told["some stay"]) < 1000 {
		t.Errorf("too few kinds of records: %v", told)
	}
}

// Rule R1: no call dies, not even of records that may not be.
func TestWrongRecords(t *testing.T) {
	for _, n := range []int{math.MinInt, -1, 0, math.MaxInt} {
		l := []api.Record{{Offset: n, Tick: n, Producer: n, Seq: n, From: n, Key: x(99), Value: x(999), Gone: true}, {Offset: n, Tick: -n}}
		for _, m := range []int{math.MinInt, -1, 0, 1, 9, math.MaxInt} {
			retain.Start(l, n, m, m, m)
			retain.Start(l, m, n, m, 0)
			retain.Start(l, m, n, 0, m)
		}
	}
}
