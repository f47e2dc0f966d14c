package pool_test

import (
	"math"
	"math/rand"
	"slices"
	"testing"

	"weighlock/api"
	"weighlock/pool"
)

// made is a pool that may be.
func made(t *testing.T, segs, epoch int) *pool.Pool {
	t.Helper()
	p, e := pool.New(segs, epoch)
	if p == nil || e != api.OK {
		t.Fatalf("New(%d, %d): %v, %v", segs, epoch, p, e)
	}
	return p
}

// logs are some that may be, and noLogs some that may not.
func logs() []int { return []int{1, 2, 3, 255, 256, 32768, 65534, 65535} }

func noLogs() []int {
	return []int{0, -1, -2, -65535, 65536, 65537, 1 << 32, 1<<32 + 1, math.MaxInt, math.MinInt}
}

// strangers are numbers that are no segment of n ones.
func strangers(n int) []int {
	return []int{-1, -2, n, n + 1, 64, 65, 1 << 32, math.MaxInt, math.MinInt}
}

// stampOf is a stamp, by the words of the chapter.
func stampOf(epoch, count int) uint32 { return uint32(epoch*65536 + count) }

// takes asks for the segment and the stamp that are next.
func takes(t *testing.T, p *pool.Pool, log, seg int, stamp uint32) {
	t.Helper()
	if a, b, e := p.Take(log); a != seg || b != stamp || e != api.OK {
		t.Errorf("Take(%d): %d, %d, %v, not %d, %d", log, a, b, e, seg, stamp)
	}
}

// takesNone asks for why no segment is taken.
func takesNone(t *testing.T, p *pool.Pool, log int, want api.Errno) {
	t.Helper()
	if a, b, e := p.Take(log); a != 0 || b != 0 || e != want {
		t.Errorf("Take(%d): %d, %d, %v, not %v", log, a, b, e, want)
	}
}

// wants asks for an answer.
func wants(t *testing.T, what string, e, want api.Errno) {
	t.Helper()
	if e != want {
		t.Errorf("%s: %v, not %v", what, e, want)
	}
}

// holds asks a pool for all that it tells of its owners, of which 0 is nobody, and of the logs.
func holds(t *testing.T, p *pool.Pool, owners []int) {
	t.Helper()
	if p.Size() != len(owners) {
		t.Fatalf("Size: %d, not %d", p.Size(), len(owners))
	}
	of, free := map[int][]int{}, 0
	for seg, log := range owners {
		if p.Owner(seg) != log {
			t.Fatalf("Owner(%d): %d, not %d", seg, p.Owner(seg), log)
		}
		if log == 0 {
			free++
			continue
		}
		of[log] = append(of[log], seg)
	}
	if p.Free() != free {
		t.Fatalf("Free: %d, not %d", p.Free(), free)
	}
	for _, log := range append(append(logs(), noLogs()...), owners...) {
		if l := p.Of(log); !slices.Equal(l, of[log]) {
			t.Fatalf("Of(%d): %v, not %v", log, l, of[log])
		}
	}
	for _, seg := range strangers(len(owners)) {
		if p.Owner(seg) != 0 {
			t.Fatalf("Owner(%d): %d", seg, p.Owner(seg))
		}
	}
}

// Promise 12.1: pools of all sizes, whose segments are free.
func TestNew(t *testing.T) {
	for segs := 6; segs <= 64; segs++ {
		for _, epoch := range []int{0, 1, 255, 256, 32768, 65534, 65535} {
			p := made(t, segs, epoch)
			holds(t, p, make([]int, segs))
			takes(t, p, 4, 0, stampOf(epoch, 0))
		}
	}
}

// Promise 12.1: segments, and epochs, that may not be.
func TestWrongPools(t *testing.T) {
	refused := func(segs, epoch int) {
		t.Helper()
		if p, e := pool.New(segs, epoch); p != nil || e != api.ErrArg {
			t.Errorf("New(%d, %d): %v, %v", segs, epoch, p, e)
		}
	}
	epochs := []int{-1, -65536, 65536, 65537, 1 << 32, math.MaxInt, math.MinInt}
	for _, segs := range []int{5, 0, -1, -6, 65, 66, 1 << 32, 1<<32 + 6, math.MaxInt, math.MinInt} {
		refused(segs, 0)
		refused(segs, 65535)
		for _, epoch := range epochs {
			refused(segs, epoch)
		}
	}
	for _, epoch := range epochs {
		refused(6, epoch)
		refused(64, epoch)
	}
}

// Promise 12.2: Take takes the lowest free segments, one by one, till none is free.
func TestTake(t *testing.T) {
	for _, segs := range []int{6, 7, 63, 64} {
		p := made(t, segs, 9)
		owners := make([]int, segs)
		for seg := range segs {
			log := logs()[seg%len(logs())]
			takes(t, p, log, seg, stampOf(9, seg))
			owners[seg] = log
			holds(t, p, owners)
		}
		for _, log := range logs() {
			takesNone(t, p, log, api.ErrPool)
		}
		for _, log := range noLogs() { // told ahead of the pool's being full
			takesNone(t, p, log, api.ErrArg)
		}
		holds(t, p, owners)
		wants(t, "Give", p.Give(segs-1), api.OK)
		takes(t, p, 1, segs-1, stampOf(9, segs)) // what was refused took no stamp
	}
}

// Promise 12.2: a Take of no log takes neither a segment nor a stamp.
func TestTakeOfNoLog(t *testing.T) {
	p := made(t, 6, 0)
	for _, log := range noLogs() {
		takesNone(t, p, log, api.ErrArg)
		holds(t, p, make([]int, 6))
	}
	takes(t, p, 65535, 0, 0)
}

// Promise 12.2: a pool tells 65536 stamps, no two alike, and then none, whatever is free.
func TestStampsEnd(t *testing.T) {
	for _, epoch := range []int{0, 1, 65535} {
		p := made(t, 6, epoch)
		for count := range 65536 {
			takes(t, p, 3, 0, stampOf(epoch, count))
			wants(t, "Give", p.Give(0), api.OK)
		}
		for range 3 {
			takesNone(t, p, 3, api.ErrPool)
			takesNone(t, p, 0, api.ErrArg)
			holds(t, p, make([]int, 6))
		}
		wants(t, "Claim", p.Claim(2, 7), api.OK) // which needs no stamp
		holds(t, p, []int{0, 0, 7, 0, 0, 0})
		wants(t, "Give", p.Give(2), api.OK)
		takesNone(t, p, 3, api.ErrPool)
	}
}

// Promise 12.2: Claim takes any free segment, and no stamp.
func TestClaim(t *testing.T) {
	for _, segs := range []int{6, 64} {
		for _, log := range logs() {
			p := made(t, segs, 2)
			owners := make([]int, segs)
			for seg := segs - 1; seg > 0; seg-- {
				wants(t, "Claim", p.Claim(seg, log), api.OK)
				owners[seg] = log
				holds(t, p, owners)
			}
			takes(t, p, 5, 0, stampOf(2, 0))
			owners[0] = 5
			for seg := range segs {
				wants(t, "Claim", p.Claim(seg, log), api.ErrSame)
				wants(t, "Claim", p.Claim(seg, 77), api.ErrSame)
			}
			holds(t, p, owners)
		}
	}
}

// Promise 12.2: Claim's errors, in their order, and what they leave.
func TestClaimsErrors(t *testing.T) {
	p := made(t, 8, 0)
	takes(t, p, 4, 0, 0)
	owners := []int{4, 0, 0, 0, 0, 0, 0, 0}
	for _, seg := range strangers(8) {
		for _, log := range append(logs(), noLogs()...) {
			wants(t, "Claim of no segment", p.Claim(seg, log), api.ErrRange)
		}
	}
	for _, log := range noLogs() {
		for seg := range 8 {
			wants(t, "Claim of no log", p.Claim(seg, log), api.ErrArg)
		}
	}
	for _, log := range logs() {
		wants(t, "Claim of what is taken", p.Claim(0, log), api.ErrSame)
	}
	holds(t, p, owners)
	takes(t, p, 4, 1, 1)
}

// Promise 12.2: Give frees a segment, that may be taken again, with another stamp.
func TestGive(t *testing.T) {
	p := made(t, 6, 1)
	for seg := range 6 {
		takes(t, p, 8, seg, stampOf(1, seg))
	}
	for i, seg := range []int{3, 0, 5, 5, 2} {
		wants(t, "Give", p.Give(seg), api.OK)
		wants(t, "Give of what is free", p.Give(seg), api.ErrNone)
		owners := slices.Repeat([]int{8}, 6)
		owners[seg] = 0
		holds(t, p, owners)
		takes(t, p, 8, seg, stampOf(1, 6+i))
	}
	for _, seg := range []int{4, 1, 3} {
		wants(t, "Give", p.Give(seg), api.OK)
	}
	holds(t, p, []int{8, 0, 8, 0, 0, 8})
	for i, seg := range []int{1, 3, 4} { // the lowest one, not the last one that was given
		takes(t, p, 9, seg, stampOf(1, 11+i))
	}
}

// Promise 12.2: Give's errors, and what they leave.
func TestGivesErrors(t *testing.T) {
	p := made(t, 6, 0)
	wants(t, "Claim", p.Claim(3, 4), api.OK)
	for _, seg := range strangers(6) {
		wants(t, "Give of no segment", p.Give(seg), api.ErrRange)
	}
	for _, seg := range []int{0, 1, 2, 4, 5} {
		wants(t, "Give of what is free", p.Give(seg), api.ErrNone)
	}
	holds(t, p, []int{0, 0, 0, 4, 0, 0})
	takes(t, p, 4, 0, 0)
}

// Promise 12.3: a log's segments rise, whatever the order in which they came.
func TestOf(t *testing.T) {
	p := made(t, 9, 0)
	for _, seg := range []int{7, 2, 5} {
		wants(t, "Claim", p.Claim(seg, 65535), api.OK)
	}
	takes(t, p, 65535, 0, 0)
	takes(t, p, 1, 1, 1)
	takes(t, p, 65535, 3, 2)
	holds(t, p, []int{65535, 1, 65535, 65535, 0, 65535, 0, 65535, 0})
	if l := p.Of(65535); !slices.Equal(l, []int{0, 2, 3, 5, 7}) {
		t.Errorf("Of: %v", l)
	}
	if l := p.Of(0); len(l) != 0 {
		t.Errorf("Of(0): %v", l)
	}
}

// Rule R3: what is told shares no memory with the pool.
func TestAnswersAreNew(t *testing.T) {
	p := made(t, 6, 0)
	takes(t, p, 4, 0, 0)
	takes(t, p, 4, 1, 1)
	l := p.Of(4)
	for i := range l {
		l[i] = 5
	}
	clear(l[:cap(l)])
	holds(t, p, []int{4, 4, 0, 0, 0, 0})
	other := made(t, 6, 0)
	wants(t, "Claim", other.Claim(2, 9), api.OK)
	holds(t, p, []int{4, 4, 0, 0, 0, 0})
	takes(t, other, 4, 0, 0)
	takes(t, p, 4, 2, 2)
}

// Promises 12.2 and 12.3: of nil.
func TestNil(t *testing.T) {
	var none *pool.Pool
	for _, n := range []int{-1, 0, 1, 5, 6, 65536} {
		takesNone(t, none, n, api.ErrState)
		wants(t, "Claim", none.Claim(n, 1), api.ErrState)
		wants(t, "Claim", none.Claim(0, n), api.ErrState)
		wants(t, "Give", none.Give(n), api.ErrState)
		if none.Owner(n) != 0 || len(none.Of(n)) != 0 {
			t.Errorf("Owner(%d): %d; Of: %v", n, none.Owner(n), none.Of(n))
		}
	}
	if none.Size() != 0 || none.Free() != 0 {
		t.Errorf("Size: %d; Free: %d", none.Size(), none.Free())
	}
}

// Rule R1: no call dies, not even of a pool that New never gave.
func TestZeroPool(t *testing.T) {
	p := new(pool.Pool)
	takesNone(t, p, 0, api.ErrArg)
	takesNone(t, p, 1, api.ErrPool)
	wants(t, "Claim", p.Claim(0, 1), api.ErrRange)
	wants(t, "Give", p.Give(0), api.ErrRange)
	holds(t, p, nil)
}

// The example of the chapter.
func TestExample(t *testing.T) {
	p := made(t, 6, 3)
	takes(t, p, 4, 0, stampOf(3, 0))
	takes(t, p, 5, 1, stampOf(3, 1))
	wants(t, "Give", p.Give(0), api.OK)
	takes(t, p, 4, 0, stampOf(3, 2))
}

// model is a pool by the words of the chapter: segment by segment.
type model struct {
	owners       []int
	epoch, count int
}

// take takes a segment of the model.
func (m *model) take(log int) (int, uint32, api.Errno) {
	if log < 1 || log > 65535 {
		return 0, 0, api.ErrArg
	}
	for seg, owner := range m.owners {
		if owner == 0 {
			m.owners[seg] = log
			m.count++
			return seg, stampOf(m.epoch, m.count-1), api.OK
		}
	}
	return 0, 0, api.ErrPool
}

// claim takes a certain segment of the model.
func (m *model) claim(seg, log int) api.Errno {
	switch {
	case seg < 0 || seg >= len(m.owners):
		return api.ErrRange
	case log < 1 || log > 65535:
		return api.ErrArg
	case m.owners[seg] != 0:
		return api.ErrSame
	}
	m.owners[seg] = log
	return api.OK
}

// give gives a segment of the model back.
func (m *model) give(seg int) api.Errno {
	switch {
	case seg < 0 || seg >= len(m.owners):
		return api.ErrRange
	case m.owners[seg] == 0:
		return api.ErrNone
	}
	m.owners[seg] = 0
	return api.OK
}

// Promise 12.4, and all the others: whatever is done, in whatever order, no two stamps are alike, and free ones and all logs' are all segments.
func TestManySteps(t *testing.T) {
	r := rand.New(rand.NewSource(7))
	for range 60 {
		segs, epoch := 6+r.Intn(59), r.Intn(65536)
		p, m := made(t, segs, epoch), &model{owners: make([]int, segs), epoch: epoch}
		told := map[uint32]int{}
		for range 300 {
			seg, log := r.Intn(segs+2)-1, r.Intn(6)
			switch r.Intn(5) {
			case 0:
				wants(t, "Claim", p.Claim(seg, log), m.claim(seg, log))
			case 1, 2:
				wants(t, "Give", p.Give(seg), m.give(seg))
			default:
				a, b, e := p.Take(log)
				if x, y, e2 := m.take(log); a != x || b != y || e != e2 {
					t.Fatalf("Take(%d): %d, %d, %v, not %d, %d, %v", log, a, b, e, x, y, e2)
				}
				if e == api.OK {
					told[b]++
				}
			}
			holds(t, p, m.owners)
			allSegments(t, p)
		}
		for stamp, times := range told {
			if times != 1 {
				t.Errorf("the stamp %d was told %d times", stamp, times)
			}
		}
	}
}

// allSegments asks whether each segment is free, or just one log's.
func allSegments(t *testing.T, p *pool.Pool) {
	t.Helper()
	sum, seen := p.Free(), map[int]int{}
	for log := range 7 {
		l := p.Of(log)
		sum += len(l)
		for _, seg := range l {
			seen[seg]++
		}
	}
	if sum != p.Size() || sum != p.Free()+len(seen) {
		t.Errorf("free ones and all logs' are %d, not %d", sum, p.Size())
	}
}
