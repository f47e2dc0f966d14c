package super_test

import (
	"encoding/binary"
	"encoding/hex"
	"hash/crc32"
	"math"
	"math/rand"
	"strings"
	"testing"

	"weighlock/api"
	"weighlock/disk"
	"weighlock/super"
	"weighlock/view"
)

// blank is a sector of a new disk.
var blank = strings.Repeat("\x00", 64)

// numbered are the bytes of a super ahead of its CRC, by the words of the chapter.
func numbered(s super.Super) []byte {
	b := []byte{0x57, 0x4c}
	for _, n := range []uint32{s.Seq, s.Epoch, s.Gens[0], s.Gens[1], s.Gens[2]} {
		b = binary.BigEndian.AppendUint32(b, n)
	}
	return b
}

// summed are bytes with their CRC.
func summed(b []byte) []byte { return binary.BigEndian.AppendUint32(b, crc32.ChecksumIEEE(b)) }

// between are bytes, and bytes 0 behind them, between two seals.
func between(stamp uint32, count uint16, b []byte) string {
	end := binary.BigEndian.AppendUint16(binary.BigEndian.AppendUint32(nil, stamp), count)
	return string(end) + string(b) + strings.Repeat("\x00", 52-len(b)) + string(end)
}

// layout is a super's sector, by the words of the chapter.
func layout(s super.Super) string { return between(s.Seq, 1, summed(numbered(s))) }

// random is a super of that Seq.
func random(r *rand.Rand, seq uint32) super.Super {
	return super.Super{Seq: seq, Epoch: r.Uint32(), Gens: [3]uint32{r.Uint32(), r.Uint32(), r.Uint32()}}
}

// seqs are some that spread over all bits.
func seqs() []uint32 {
	return []uint32{0, 1, 2, 3, 255, 256, 65535, 65536, 0x01020304, 1<<31 - 1, 1 << 31, math.MaxUint32 - 1, math.MaxUint32}
}

// wants asks for an answer.
func wants(t *testing.T, what string, e, want api.Errno) {
	t.Helper()
	if e != want {
		t.Errorf("%s: %v, not %v", what, e, want)
	}
}

// decodes asks for the super of a sector.
func decodes(t *testing.T, sector string, want super.Super) {
	t.Helper()
	if s, e := super.Decode(sector); s != want || e != api.OK {
		t.Errorf("Decode(%x): %v, %v, not %v", sector, s, e, want)
	}
}

// refuses asks for bytes that are none of a super.
func refuses(t *testing.T, sector string) {
	t.Helper()
	if s, e := super.Decode(sector); s != (super.Super{}) || e != api.ErrForm {
		t.Errorf("Decode(%x): %v, %v", sector, s, e)
	}
}

// picks asks for the super of two sectors.
func picks(t *testing.T, a, b string, want super.Super) {
	t.Helper()
	if s, e := super.Pick(a, b); s != want || e != api.OK {
		t.Errorf("Pick(%x, %x): %v, %v, not %v", a, b, s, e, want)
	}
}

// picksNone asks for two sectors of no super.
func picksNone(t *testing.T, a, b string) {
	t.Helper()
	if s, e := super.Pick(a, b); s != (super.Super{}) || e != api.ErrBroken {
		t.Errorf("Pick(%x, %x): %v, %v", a, b, s, e)
	}
}

// opened is a view of so many sectors of a new disk, with others ahead of it and behind.
func opened(t *testing.T, sectors int) *view.View {
	t.Helper()
	d, e := disk.New(sectors + 5)
	if e != api.OK {
		t.Fatal(e)
	}
	v, e := view.New(d, 3, sectors)
	if e != api.OK {
		t.Fatal(e)
	}
	return v
}

// holds writes a view's sectors 0 and 1, and flushes them.
func holds(t *testing.T, v *view.View, a, b string) {
	t.Helper()
	wants(t, "Write", v.Write(0, a), api.OK)
	wants(t, "Write", v.Write(1, b), api.OK)
	wants(t, "Flush", v.Flush(), api.OK)
}

// loads asks for the super of a view.
func loads(t *testing.T, v *view.View, want super.Super) {
	t.Helper()
	if s, e := super.Load(v); s != want || e != api.OK {
		t.Errorf("Load: %v, %v, not %v", s, e, want)
	}
}

// loadsNone asks for why a view has no super to tell.
func loadsNone(t *testing.T, v *view.View, want api.Errno) {
	t.Helper()
	if s, e := super.Load(v); s != (super.Super{}) || e != want {
		t.Errorf("Load: %v, %v, not %v", s, e, want)
	}
}

// Promise 10.1: bytes that are known, written out.
func TestKnownBytes(t *testing.T) {
	rest := strings.Repeat("00", 26)
	for _, c := range []struct {
		s          super.Super
		end, begin string
	}{
		{super.Super{}, "000000000001", "574c00000000000000000000000000000000000000006da3a61a"},
		{super.Super{Seq: 6, Epoch: 1, Gens: [3]uint32{7, 8, 9}}, "000000060001", "574c00000006000000010000000700000008000000093acc563b"},
		{super.Super{Seq: math.MaxUint32, Epoch: 0x01020304, Gens: [3]uint32{1 << 31, 0xfffefdfc, 255}}, "ffffffff0001", "574cffffffff0102030480000000fffefdfc000000ff5cb8ddb1"},
	} {
		if s := hex.EncodeToString([]byte(super.Encode(c.s))); s != c.end+c.begin+rest+c.end {
			t.Errorf("Encode(%v): %s", c.s, s)
		}
	}
}

// Promise 10.1: Decode of Encode tells the super.
func TestEncodeAndDecode(t *testing.T) {
	r := rand.New(rand.NewSource(1))
	holds := func(s super.Super) {
		t.Helper()
		sector := super.Encode(s)
		if sector != layout(s) || len(sector) != 64 {
			t.Errorf("Encode(%v): %x", s, sector)
		}
		decodes(t, sector, s)
	}
	for _, seq := range seqs() {
		for range 50 {
			holds(random(r, seq))
		}
		holds(super.Super{Seq: seq})
		for _, n := range seqs() {
			holds(super.Super{Seq: seq, Epoch: n})
			holds(super.Super{Seq: seq, Gens: [3]uint32{n, 1, 2}})
			holds(super.Super{Seq: seq, Gens: [3]uint32{1, n, 2}})
			holds(super.Super{Seq: seq, Gens: [3]uint32{1, 2, n}})
		}
	}
}

// Promise 10.1: the place of an even Seq, and of an odd one.
func TestPlace(t *testing.T) {
	for _, seq := range seqs() {
		want := 0
		if seq&1 == 1 {
			want = 1
		}
		for _, s := range []super.Super{{Seq: seq}, {Seq: seq, Epoch: 1, Gens: [3]uint32{1, 1, 1}}, {Seq: seq, Epoch: 2, Gens: [3]uint32{2, 2, 2}}} {
			if super.Place(s) != want {
				t.Errorf("Place(%v): %d", s, super.Place(s))
			}
		}
	}
}

// Promise 10.1: bytes that are no sector.
func TestWrongLengths(t *testing.T) {
	whole := layout(super.Super{Seq: 6, Epoch: 1})
	for n := range 64 {
		refuses(t, whole[:n])
		refuses(t, whole[64-n:])
	}
	for n := 65; n <= 128; n++ {
		refuses(t, (whole + whole)[:n])
	}
	refuses(t, blank)
	refuses(t, strings.Repeat("\x01", 64))
	refuses(t, strings.Repeat("\xff", 64))
}

// Promise 10.1: no bit of a super's sector may be another one.
func TestEachBit(t *testing.T) {
	r := rand.New(rand.NewSource(2))
	for _, seq := range seqs() {
		whole := layout(random(r, seq))
		for at := range 64 {
			for bit := range 8 {
				b := []byte(whole)
				b[at] ^= 1 << bit
				refuses(t, string(b))
			}
		}
	}
}

// Promise 10.1: what is wrong in one way alone, with seals that are the same, and a CRC of what is there.
func TestWrongInOneWay(t *testing.T) {
	s := super.Super{Seq: 6, Epoch: 1, Gens: [3]uint32{7, 8, 9}}
	data := summed(numbered(s))
	decodes(t, between(6, 1, data), s)
	for _, stamp := range []uint32{0, 5, 7, 6 << 8, 6 | 1<<16, 6 | 1<<31} {
		refuses(t, between(stamp, 1, data))
	}
	for _, count := range []uint16{0, 2, 3, 256, 257, 65535} {
		refuses(t, between(6, count, data))
	}
	for _, mark := range []string{"\x00\x00", "wl", "LW", "WM", "XL", "W\x00", "\x00L"} {
		b := append([]byte(mark), numbered(s)[2:]...)
		refuses(t, between(6, 1, summed(b)))
	}
	for at := len(data); at < 52; at++ {
		for bit := range 8 {
			b := make([]byte, 52)
			copy(b, data)
			b[at] = 1 << bit
			refuses(t, between(6, 1, b))
		}
	}
	bare := numbered(s)
	for _, begin := range []uint32{1, 6, math.MaxUint32} { // the CRC of a beginning that is not 0
		refuses(t, between(6, 1, binary.BigEndian.AppendUint32(numbered(s), crc32.Update(begin, crc32.IEEETable, bare))))
	}
	refuses(t, between(6, 1, binary.BigEndian.AppendUint32(numbered(s), crc32.ChecksumIEEE(bare[2:])))) // without the mark
	refuses(t, between(6, 1, binary.LittleEndian.AppendUint32(numbered(s), crc32.ChecksumIEEE(bare))))
	refuses(t, between(6, 1, bare))
}

// Promise 10.2: one that lies in its place, whatever the other sector holds.
func TestPickOfOne(t *testing.T) {
	r := rand.New(rand.NewSource(3))
	for _, seq := range seqs() {
		s := random(r, seq)
		torn := layout(random(r, seq^1))[:63] + "x"
		displaced := layout(random(r, seq)) // a super, but not where it belongs
		greater := layout(random(r, seq|1<<31|2))
		for _, other := range []string{"", "x", blank, torn, strings.Repeat("\xff", 64), layout(s)[:63], layout(s), displaced, greater} {
			if seq%2 == 0 {
				picks(t, layout(s), other, s)
			} else {
				picks(t, other, layout(s), s)
			}
		}
	}
}

// Promise 10.2: of two the one with the greater Seq, as numbers without a sign, and however far apart.
func TestPickOfTwo(t *testing.T) {
	r := rand.New(rand.NewSource(4))
	for _, x := range seqs() {
		for _, y := range seqs() {
			even, odd := random(r, x&^1), random(r, y|1)
			want := even
			if odd.Seq > even.Seq {
				want = odd
			}
			picks(t, layout(even), layout(odd), want)
			picksNone(t, layout(odd), layout(even))
		}
	}
	low, high := super.Super{Seq: 6, Epoch: 9, Gens: [3]uint32{9, 9, 9}}, super.Super{Seq: 7}
	picks(t, layout(low), layout(high), high) // the Seq alone counts
}

// Promise 10.2: neither is a super whose place it is.
func TestPickOfNone(t *testing.T) {
	even, odd := layout(super.Super{Seq: 6}), layout(super.Super{Seq: 7})
	lefts := []string{"", "x", blank, odd, even[:63], even + "x", even[:63] + "x", strings.Repeat("\x01", 64)}
	rights := []string{"", "x", blank, even, odd[:63], odd + "x", odd[:63] + "x", strings.Repeat("\x01", 64)}
	for _, a := range lefts {
		for _, b := range rights {
			picksNone(t, a, b)
		}
		picks(t, a, odd, super.Super{Seq: 7})
	}
	for _, b := range rights {
		picks(t, even, b, super.Super{Seq: 6})
	}
}

// Promise 10.2: no view, ahead of all else.
func TestNil(t *testing.T) {
	loadsNone(t, nil, api.ErrState)
	for _, seq := range seqs() {
		wants(t, "Store", super.Store(nil, super.Super{Seq: seq}), api.ErrState)
	}
}

// Rule R1: no call dies, not even of a view that New never gave.
func TestZeroView(t *testing.T) {
	v := new(view.View)
	loadsNone(t, v, api.ErrRange)
	wants(t, "Store", super.Store(v, super.Super{Seq: 6}), api.ErrRange)
	wants(t, "Store", super.Store(v, super.Super{Seq: 7}), api.ErrRange)
}

// Promise 10.2: Load tells what Pick of the sectors 0 and 1 does.
func TestLoad(t *testing.T) {
	r := rand.New(rand.NewSource(5))
	v := opened(t, 4)
	loadsNone(t, v, api.ErrBroken)
	for range 300 {
		var sectors [2]string
		for at := range sectors {
			seq := uint32(r.Intn(9))
			sectors[at] = []string{blank, layout(random(r, seq)), layout(random(r, seq))[:63] + "\x02"}[r.Intn(3)]
		}
		holds(t, v, sectors[0], sectors[1])
		steps := v.Steps()
		s, e := super.Load(v)
		if want, e2 := super.Pick(sectors[0], sectors[1]); s != want || e != e2 {
			t.Errorf("Load of %x: %v, %v, not %v, %v", sectors, s, e, want, e2)
		}
		if v.Steps() != steps || v.Waiting() != 0 {
			t.Error("Load changed the view")
		}
	}
	holds(t, v, blank, blank)
	for at := 2; at < 4; at++ { // what lies elsewhere is no super of the view's
		wants(t, "Write", v.Write(at, layout(super.Super{Seq: uint32(at)})), api.OK)
	}
	loadsNone(t, v, api.ErrBroken)
}

// Promise 10.2: what is read counts, also of a write that waits.
func TestLoadOfWaiting(t *testing.T) {
	v := opened(t, 2)
	six, seven := super.Super{Seq: 6, Epoch: 1}, super.Super{Seq: 7, Epoch: 2}
	holds(t, v, layout(six), blank)
	wants(t, "Write", v.Write(1, layout(seven)), api.OK)
	loads(t, v, seven)
	wants(t, "Crash", v.Crash(nil), api.OK)
	loads(t, v, six)
}

// Promise 10.2: the errors of Load's Reads, of views that lack a sector, and of a power that is gone, ahead of Pick's.
func TestLoadsErrors(t *testing.T) {
	v := opened(t, 1)
	loadsNone(t, v, api.ErrRange)
	wants(t, "Store", super.Store(v, super.Super{Seq: 6}), api.OK)
	loadsNone(t, v, api.ErrRange)
	v.Fuse(0)
	wants(t, "Store", super.Store(v, super.Super{Seq: 8}), api.ErrPower)
	loadsNone(t, v, api.ErrPower) // the Read of 0 comes first

	v = opened(t, 2)
	wants(t, "Store", super.Store(v, super.Super{Seq: 6}), api.OK)
	v.Fuse(0)
	loads(t, v, super.Super{Seq: 6}) // no step, so no use of the fuse
	wants(t, "Store", super.Store(v, super.Super{Seq: 7}), api.ErrPower)
	loadsNone(t, v, api.ErrPower)
}

// Promise 10.2: Store writes the super's place, and that alone, and flushes the view.
func TestStore(t *testing.T) {
	r := rand.New(rand.NewSource(6))
	v := opened(t, 4)
	want := [4]string{blank, blank, blank, blank}
	for i, seq := range seqs() {
		s := random(r, seq)
		want[seq%2] = layout(s)
		wants(t, "Write", v.Write(3, strings.Repeat("w", 64)), api.OK)
		want[3] = strings.Repeat("w", 64)
		wants(t, "Store", super.Store(v, s), api.OK)
		if v.Steps() != 3*(i+1) || v.Waiting() != 0 {
			t.Errorf("Steps %d, Waiting %d", v.Steps(), v.Waiting())
		}
		wants(t, "Crash", v.Disk.Crash(3, 4, nil), api.OK)
		for at, sector := range want {
			if lies, e := v.Lies(at); lies != sector || e != api.OK {
				t.Errorf("Seq %d: at %d lies %x, %v", seq, at, lies, e)
			}
		}
	}
}

// Promise 10.2: the errors of Store's Write, and of its Flush.
func TestStoresErrors(t *testing.T) {
	v := opened(t, 1)
	wants(t, "Store where there is no sector", super.Store(v, super.Super{Seq: 7}), api.ErrRange)
	if v.Steps() != 0 || v.Waiting() != 0 {
		t.Error("what was refused was written")
	}
	wants(t, "Store", super.Store(v, super.Super{Seq: 6}), api.OK)

	v = opened(t, 2)
	v.Fuse(0)
	wants(t, "Store with a fuse of 0", super.Store(v, super.Super{Seq: 7}), api.ErrPower)
	if v.Steps() != 0 || v.Waiting() != 0 || !v.Dead() {
		t.Error("a Write behind the power")
	}
	wants(t, "Crash", v.Crash(nil), api.OK)
	v.Fuse(1)
	wants(t, "Store with a fuse of 1", super.Store(v, super.Super{Seq: 7}), api.ErrPower)
	if v.Steps() != 1 || v.Waiting() != 1 || !v.Dead() {
		t.Error("a Flush behind the power, or no Write ahead of it")
	}
	wants(t, "Crash", v.Crash(nil), api.OK)
	v.Fuse(2)
	wants(t, "Store with a fuse of 2", super.Store(v, super.Super{Seq: 7}), api.OK)
	if v.Steps() != 2 || v.Waiting() != 0 || v.Dead() {
		t.Error("Store takes more steps than two")
	}
}

// Promise 10.3: wherever the power goes, and however far a write came, one of the two lies there.
func TestPowerGoes(t *testing.T) {
	r := rand.New(rand.NewSource(7))
	for _, seq := range []uint32{0, 1, 2, 3, 254, 255, 256, 65535, 1<<24 - 1, 1<<31 - 1, math.MaxUint32 - 1} {
		old, next := random(r, seq), random(r, seq+1)
		former := []string{blank, layout(random(r, seq-1)), layout(random(r, seq-1))[:30] + blank[30:], layout(old)}
		for _, other := range former {
			if s, e := super.Decode(other); e == api.OK && s.Seq > old.Seq {
				continue // of the Seq 0 there was none ahead
			}
			for fuse := range 4 {
				for kept := -1; kept <= 65; kept++ {
					v := opened(t, 2)
					wants(t, "Write", v.Write(super.Place(old), layout(old)), api.OK)
					wants(t, "Write", v.Write(super.Place(next), other), api.OK)
					wants(t, "Flush", v.Flush(), api.OK)
					v.Fuse(fuse)
					e := super.Store(v, next)
					wants(t, "Crash", v.Crash([]api.Keep{{Index: 0, Bytes: kept}}), api.OK)
					if fuse >= 2 {
						wants(t, "Store", e, api.OK)
						loads(t, v, next)
						continue
					}
					wants(t, "Store", e, api.ErrPower)
					if s, e := super.Load(v); e != api.OK || s != old && s != next || s == next && fuse == 0 {
						t.Errorf("Load with %d bytes kept, fuse %d: %v, %v", kept, fuse, s, e)
					}
				}
			}
		}
	}
}

// Promise 10.3: over many crashes, with Seqs that are tried again with other numbers, over what was torn.
func TestPowerGoesAgain(t *testing.T) {
	r := rand.New(rand.NewSource(8))
	v := opened(t, 3)
	lies := random(r, 0)
	wants(t, "Store", super.Store(v, lies), api.OK)
	stored, came, stayed := 0, 0, 0
	for range 20000 {
		next := random(r, lies.Seq+1)
		v.Fuse(r.Intn(3))
		e := super.Store(v, next)
		var keeps []api.Keep
		for range r.Intn(4) {
			keeps = append(keeps, api.Keep{Index: r.Intn(3) - 1, Bytes: r.Intn(68) - 1})
		}
		wants(t, "Crash", v.Crash(keeps), api.OK)
		s, e2 := super.Load(v)
		switch {
		case e2 == api.OK && s == next && e == api.OK:
			stored++
		case e2 == api.OK && s == next && e == api.ErrPower:
			came++
		case e2 == api.OK && s == lies && e == api.ErrPower:
			stayed++
		default:
			t.Fatalf("Store(%v) over %v: %v; Load: %v, %v", next, lies, e, s, e2)
		}
		lies = s
	}
	if stored < 1000 || came < 100 || stayed < 1000 {
		t.Errorf("%d were stored, %d came, %d stayed", stored, came, stayed)
	}
}
