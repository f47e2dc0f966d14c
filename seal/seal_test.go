package seal_test

import (
	"bytes"
	"encoding/binary"
	"encoding/hex"
	"math"
	"math/rand"
	"strings"
	"testing"

	"weighlock/api"
	"weighlock/seal"
)

// layout is a sealed sector, by the words of the chapter, of whatever count and data.
func layout(stamp uint32, count int, data string) string {
	end := binary.BigEndian.AppendUint32(nil, stamp)
	end = binary.BigEndian.AppendUint16(end, uint16(count))
	return string(end) + data + string(end)
}

// blank is a sector of a new disk.
var blank = strings.Repeat("\x00", 64)

// some is so many bytes that spread over all values.
func some(r *rand.Rand, n int) string {
	b := make([]byte, n)
	r.Read(b)
	return string(b)
}

// stamps are some that spread over all bits.
func stamps() []uint32 {
	return []uint32{0, 1, 2, 255, 256, 65535, 65536, 1 << 24, 1 << 31, 0x01020304, math.MaxUint32 - 1, math.MaxUint32}
}

// counts are some that may be.
func counts() []int { return []int{1, 2, 255, 256, 257, 0x0102, 32767, 32768, 65534, 65535} }

// sealed is a sector that may be.
func sealed(t *testing.T, stamp uint32, count int, data string) string {
	t.Helper()
	s, e := seal.Seal(stamp, count, data)
	if e != api.OK {
		t.Fatalf("Seal(%d, %d, %d bytes): %v", stamp, count, len(data), e)
	}
	return s
}

// tells asks for what a sector tells.
func tells(t *testing.T, sector string, stamp uint32, count int, data string) {
	t.Helper()
	if a, b, c, e := seal.Open(sector); a != stamp || b != count || c != data || e != api.OK {
		t.Errorf("Open(%x): %d, %d, %x, %v", sector, a, b, c, e)
	}
}

// refuses asks for bytes that are no sealed sector.
func refuses(t *testing.T, sector string) {
	t.Helper()
	if a, b, c, e := seal.Open(sector); a != 0 || b != 0 || c != "" || e != api.ErrForm {
		t.Errorf("Open(%x): %d, %d, %x, %v", sector, a, b, c, e)
	}
}

// Promise 9.1: bytes that are known, written out.
func TestKnownBytes(t *testing.T) {
	data := strings.Repeat("\xd0", 52)
	for _, c := range []struct {
		stamp uint32
		count int
		end   string
	}{
		{1, 2, "000000010002"},
		{0, 1, "000000000001"},
		{0x01020304, 0x0506, "010203040506"},
		{math.MaxUint32, 65535, "ffffffffffff"},
		{1 << 31, 256, "800000000100"},
	} {
		if s := hex.EncodeToString([]byte(sealed(t, c.stamp, c.count, data))); s != c.end+strings.Repeat("d0", 52)+c.end {
			t.Errorf("Seal(%d, %d): %s", c.stamp, c.count, s)
		}
	}
}

// Promises 9.1 and 9.2: Open of Seal tells what was sealed.
func TestSealAndOpen(t *testing.T) {
	r := rand.New(rand.NewSource(1))
	for _, stamp := range stamps() {
		for _, count := range counts() {
			for _, data := range []string{some(r, 52), strings.Repeat("\x00", 52), strings.Repeat("\xff", 52)} {
				s := sealed(t, stamp, count, data)
				if s != layout(stamp, count, data) || len(s) != 64 {
					t.Errorf("Seal(%d, %d, %x): %x", stamp, count, data, s)
				}
				tells(t, s, stamp, count, data)
			}
		}
	}
	for count := 1; count <= 65535; count++ {
		stamp, data := r.Uint32(), some(r, 52)
		tells(t, sealed(t, stamp, count, data), stamp, count, data)
	}
}

// Promise 9.1: counts that may not be, and data of few or many bytes.
func TestWrongSeals(t *testing.T) {
	refused := func(stamp uint32, count, n int) {
		t.Helper()
		if s, e := seal.Seal(stamp, count, strings.Repeat("d", n)); s != "" || e != api.ErrArg {
			t.Errorf("Seal(%d, %d, %d bytes): %x, %v", stamp, count, n, s, e)
		}
	}
	for _, stamp := range stamps() {
		for _, count := range []int{0, -1, -65535, 65536, 65537, 1 << 32, 1<<32 + 1, math.MaxInt, math.MinInt, math.MinInt + 1} {
			refused(stamp, count, 52)
			refused(stamp, count, 0)
		}
		for _, n := range []int{0, 1, 40, 51, 53, 58, 64, 65536 + 52} {
			refused(stamp, 1, n)
			refused(stamp, 65535, n)
		}
	}
}

// Promise 9.1: no sector of few or many bytes opens, whatever they are.
func TestWrongLengths(t *testing.T) {
	whole := layout(7, 3, strings.Repeat("d", 52))
	for n := range 64 {
		refuses(t, whole[:n])
		refuses(t, whole[64-n:])
		refuses(t, strings.Repeat("\x01", n))
	}
	for n := 65; n < 140; n++ {
		refuses(t, (whole + whole + whole)[:n])
		refuses(t, strings.Repeat("\x01", n))
		refuses(t, layout(7, 3, strings.Repeat("d", n-12)))
	}
	tells(t, strings.Repeat("\x01", 64), 0x01010101, 0x0101, strings.Repeat("\x01", 52))
}

// Promise 9.1: seals that are not the same, be it by one bit.
func TestSealsThatDiffer(t *testing.T) {
	r := rand.New(rand.NewSource(2))
	for _, stamp := range stamps() {
		for _, count := range counts() {
			whole := layout(stamp, count, some(r, 52))
			for at := range 64 {
				for bit := range 8 {
					b := []byte(whole)
					b[at] ^= 1 << bit
					if at >= 6 && at < 58 { // no seal tells what the data is
						tells(t, string(b), stamp, count, string(b[6:58]))
						continue
					}
					refuses(t, string(b))
				}
			}
		}
	}
}

// Promise 9.1: two seals of the count 0 are the same, but no sector is sealed by them.
func TestCountOfNone(t *testing.T) {
	refuses(t, blank)
	for _, stamp := range stamps() {
		refuses(t, layout(stamp, 0, strings.Repeat("d", 52)))
		refuses(t, layout(stamp, 0, strings.Repeat("\x00", 52)))
	}
}

// Promise 9.2: what opens is a sealed sector, and only that opens.
func TestWhatOpens(t *testing.T) {
	r := rand.New(rand.NewSource(3))
	opened := 0
	for range 20000 {
		b := make([]byte, 64)
		for i := range b {
			b[i] = byte(r.Intn(2)) // so that seals often are the same
		}
		if r.Intn(2) == 0 {
			copy(b[58:], b[:6])
		}
		stamp, count, data, e := seal.Open(string(b))
		if e != api.OK {
			if bytes.Equal(b[:6], b[58:]) && (b[4] != 0 || b[5] != 0) {
				t.Fatalf("Open(%x): %v", b, e)
			}
			refuses(t, string(b))
			continue
		}
		opened++
		if s := sealed(t, stamp, count, data); s != string(b) {
			t.Fatalf("Open(%x): as %x would", b, s)
		}
	}
	if opened < 1000 {
		t.Errorf("%d opened", opened)
	}
}

// torn asks, of all that a sector may be when the first bytes of a sealed one lie ahead of another's last ones, for what it opens as.
func torn(t *testing.T, first, last string) {
	t.Helper()
	for cut := range 65 {
		s := first[:cut] + last[cut:]
		if _, _, _, e := seal.Open(s); e != api.OK {
			refuses(t, s)
			if s == first || s == last && last != blank {
				t.Errorf("%d bytes of %x ahead of %x do not open", cut, first, last)
			}
			continue
		}
		if s != first && s != last {
			t.Errorf("%d bytes of %x ahead of %x open", cut, first, last)
		}
	}
}

// Promise 9.3: a torn sector opens as the one, or as the other one, or not at all.
func TestTorn(t *testing.T) {
	r := rand.New(rand.NewSource(4))
	for range 3000 {
		stamp, count := r.Uint32(), 1+r.Intn(65535)
		other, others := stamp, count
		switch r.Intn(4) { // seals that differ in one bit alone begin, or end, alike
		case 0:
			other ^= 1 << r.Intn(32)
		case 1:
			others = count ^ 1<<r.Intn(16)
		case 2:
			other++
		default:
			other, others = r.Uint32(), 1+r.Intn(65535)
		}
		if others == 0 || other == stamp && others == count {
			continue
		}
		a, b := layout(stamp, count, some(r, 52)), layout(other, others, some(r, 52))
		torn(t, a, b)
		torn(t, b, a)
		torn(t, a, blank)
		torn(t, layout(stamp&0xff00, count&0xff00|256, some(r, 52)), blank) // its seal ends in a byte 0, as the blank one
		torn(t, layout(0, count, some(r, 52)), blank)
	}
}

// Promise 9.3: how far the first bytes must come, of two sectors whose seals differ in the last byte.
func TestTornExactly(t *testing.T) {
	a, b := layout(9, 2, strings.Repeat("a", 52)), layout(9, 1, strings.Repeat("b", 52))
	for cut := range 65 {
		s := a[:cut] + b[cut:]
		switch {
		case cut <= 5:
			tells(t, s, 9, 1, strings.Repeat("b", 52))
		case cut == 64:
			tells(t, s, 9, 2, strings.Repeat("a", 52))
		default:
			refuses(t, s)
		}
	}
}
