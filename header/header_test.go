package header_test

import (
	"encoding/binary"
	"encoding/hex"
	"hash/crc32"
	"math"
	"math/rand"
	"slices"
	"strings"
	"testing"

	"weighlock/api"
	"weighlock/header"
)

const mostBase = 1 << 40

// numbered are the bytes of a header ahead of its CRC, by the words of the chapter, of whatever numbers.
func numbered(log uint16, gen, stamp uint32, base uint64) []byte {
	b := binary.BigEndian.AppendUint16([]byte{0x57, 0x53}, log)
	b = binary.BigEndian.AppendUint32(b, gen)
	b = binary.BigEndian.AppendUint32(b, stamp)
	b = binary.BigEndian.AppendUint64(b, base)
	return append(b, 0, 0, 0, 0, 0, 0, 0, 0)
}

// summed are bytes with their CRC.
func summed(b []byte) string {
	return string(b) + string(binary.BigEndian.AppendUint32(nil, crc32.ChecksumIEEE(b)))
}

// layout is a header as bytes, by the words of the chapter.
func layout(h header.Header) string {
	return summed(numbered(uint16(h.Log), h.Gen, h.Stamp, uint64(h.Base)))
}

// some is so many bytes that spread over all values.
func some(r *rand.Rand, n int) string {
	b := make([]byte, n)
	r.Read(b)
	return string(b)
}

// random is a header that may be.
func random(r *rand.Rand) header.Header {
	return header.Header{Log: 1 + r.Intn(65535), Gen: r.Uint32(), Stamp: r.Uint32(), Base: r.Intn(mostBase + 1)}
}

// stamps are some numbers of 32 bits that spread over all bits.
func stamps() []uint32 {
	return []uint32{0, 1, 2, 255, 256, 65535, 65536, 65537, 1 << 24, 1<<31 - 1, 1 << 31, 0x01020304, math.MaxUint32 - 1, math.MaxUint32}
}

// logs, and bases, are some that may be.
func logs() []int { return []int{1, 2, 255, 256, 257, 0x0102, 32767, 32768, 65534, 65535} }

func bases() []int {
	return []int{0, 1, 2, 255, 256, 65536, 1 << 31, 1<<32 - 1, 1 << 32, 0x0102030405, mostBase - 1, mostBase}
}

// parts are some that may be, and noParts some that may not.
func parts() []int { return []int{0, 1, 2, 255, 256, 0x0102, 32767, 32768, 65534, 65535} }

func noParts() []int {
	return []int{-1, -2, -65535, -65536, 65536, 65537, 1 << 31, 1 << 32, 1<<32 + 1, math.MaxInt, math.MinInt, math.MinInt + 1}
}

// encodes asks for the bytes of a header that may be.
func encodes(t *testing.T, h header.Header) string {
	t.Helper()
	s, e := header.Encode(h)
	if s != layout(h) || len(s) != 32 || e != api.OK {
		t.Errorf("Encode(%v): %x, %v, not %x", h, s, e, layout(h))
	}
	return s
}

// decodes asks for the header with which bytes begin.
func decodes(t *testing.T, s string, want header.Header) {
	t.Helper()
	if h, e := header.Decode(s); h != want || e != api.OK {
		t.Errorf("Decode(%x): %v, %v, not %v", s, h, e, want)
	}
}

// refuses asks for bytes that do not begin with a header.
func refuses(t *testing.T, s string, want api.Errno) {
	t.Helper()
	if h, e := header.Decode(s); h != (header.Header{}) || e != want {
		t.Errorf("Decode(%x): %v, %v, not %v", s, h, e, want)
	}
}

// Promise 11.1: bytes that are known, written out.
func TestKnownBytes(t *testing.T) {
	for _, c := range []struct {
		h    header.Header
		want string
	}{
		{header.Header{Log: 258, Gen: 3, Stamp: 4, Base: 5}, "5753010200000003000000040000000000000005000000000000000088e05f00"},
		{header.Header{Log: 1}, "575300010000000000000000000000000000000000000000000000001891afa7"},
		{header.Header{Log: 65535, Gen: math.MaxUint32, Stamp: math.MaxUint32, Base: mostBase}, "5753ffffffffffffffffffff00000100000000000000000000000000ae1631e2"},
		{header.Header{Log: 0x0102, Gen: 0x03040506, Stamp: 0x0708090a, Base: 0x0b0c0d0e0f}, "57530102030405060708090a0000000b0c0d0e0f0000000000000000e57a793b"},
	} {
		if s := hex.EncodeToString([]byte(encodes(t, c.h))); s != c.want {
			t.Errorf("Encode(%v): %s", c.h, s)
		}
		b, _ := hex.DecodeString(c.want)
		decodes(t, string(b), c.h)
	}
}

// Promises 11.1 and 11.3: Decode of Encode is the header, whatever stands behind.
func TestEncodeAndDecode(t *testing.T) {
	r := rand.New(rand.NewSource(1))
	holds := func(h header.Header) {
		t.Helper()
		s := encodes(t, h)
		for _, behind := range []string{"", "x", "\x00", some(r, 1+r.Intn(100)), s, layout(random(r))} {
			decodes(t, s+behind, h)
		}
	}
	for _, log := range logs() {
		for _, base := range bases() {
			for _, n := range stamps() {
				holds(header.Header{Log: log, Gen: n, Base: base})
				holds(header.Header{Log: log, Stamp: n, Base: base})
			}
		}
	}
	for range 3000 {
		holds(random(r))
	}
}

// Promise 11.1: a Log, or a Base, that may not be.
func TestWrongHeaders(t *testing.T) {
	refused := func(h header.Header) {
		t.Helper()
		if s, e := header.Encode(h); s != "" || e != api.ErrArg {
			t.Errorf("Encode(%v): %x, %v", h, s, e)
		}
	}
	for _, log := range []int{0, -1, -65535, 65536, 65537, 1 << 32, 1<<32 + 1, math.MaxInt, math.MinInt, math.MinInt + 1} {
		for _, n := range stamps() {
			refused(header.Header{Log: log, Gen: n, Stamp: n})
			refused(header.Header{Log: log, Gen: n, Stamp: n, Base: mostBase})
			refused(header.Header{Log: log, Gen: n, Stamp: n, Base: -1})
		}
	}
	for _, base := range []int{-1, -2, -mostBase, mostBase + 1, 1 << 41, 1 << 62, math.MaxInt, math.MinInt, math.MinInt + 1} {
		for _, log := range logs() {
			refused(header.Header{Log: log, Base: base})
			refused(header.Header{Log: log, Gen: 7, Stamp: 8, Base: base})
		}
	}
}

// Promise 11.1: fewer than 32 bytes, whatever they are.
func TestShort(t *testing.T) {
	r := rand.New(rand.NewSource(2))
	for range 50 {
		whole := layout(random(r))
		for n := range 32 {
			refuses(t, whole[:n], api.ErrShort)
			refuses(t, whole[32-n:], api.ErrShort)
			refuses(t, some(r, n), api.ErrShort)
			refuses(t, strings.Repeat("\x00", n), api.ErrShort)
		}
	}
}

// Promise 11.1: no bit of a header's bytes may be another one, and none of those behind counts.
func TestEachBit(t *testing.T) {
	r := rand.New(rand.NewSource(3))
	for range 100 {
		h := random(r)
		whole := layout(h) + some(r, 8)
		for at := range whole {
			for bit := range 8 {
				b := []byte(whole)
				b[at] ^= 1 << bit
				if at >= 32 {
					decodes(t, string(b), h)
					continue
				}
				refuses(t, string(b), api.ErrForm)
				refuses(t, string(b[:32]), api.ErrForm)
			}
		}
	}
}

// Promise 11.1: bytes that are no header at all, or begin with none.
func TestNoHeader(t *testing.T) {
	r := rand.New(rand.NewSource(4))
	whole := layout(random(r))
	for n := 32; n < 100; n++ {
		refuses(t, strings.Repeat("\x00", n), api.ErrForm)
		refuses(t, strings.Repeat("\xff", n), api.ErrForm)
		refuses(t, strings.Repeat("WS", n), api.ErrForm)
		refuses(t, some(r, n), api.ErrForm)
		refuses(t, (whole + whole + whole + whole)[1:n+1], api.ErrForm)
	}
}

// Promise 11.1: what is wrong in one way alone, with a CRC of what is there.
func TestWrongInOneWay(t *testing.T) {
	for _, base := range bases() { // so that it is the numbers alone that are wrong below
		decodes(t, summed(numbered(258, 3, 4, uint64(base))), header.Header{Log: 258, Gen: 3, Stamp: 4, Base: base})
		refuses(t, summed(numbered(0, 3, 4, uint64(base))), api.ErrForm)
	}
	for _, base := range []uint64{mostBase + 1, 1 << 41, 1 << 62, 1<<63 - 1, 1 << 63, 1<<63 + 1, 1<<63 | 5, math.MaxUint64, math.MaxUint64 - 1} {
		for _, log := range logs() {
			refuses(t, summed(numbered(uint16(log), 3, 4, base)), api.ErrForm)
		}
	}
	bare := numbered(258, 3, 4, 5)
	for _, mark := range []string{"\x00\x00", "ws", "SW", "WL", "WT", "XS", "W\x00", "\x00S"} {
		refuses(t, summed(append([]byte(mark), bare[2:]...)), api.ErrForm)
	}
	for at := 20; at < 28; at++ {
		for bit := range 8 {
			b := slices.Clone(bare)
			b[at] = 1 << bit
			refuses(t, summed(b), api.ErrForm)
		}
	}
	for _, begin := range []uint32{1, 4, math.MaxUint32} { // the CRC of a beginning that is not 0
		refuses(t, string(binary.BigEndian.AppendUint32(slices.Clone(bare), crc32.Update(begin, crc32.IEEETable, bare))), api.ErrForm)
	}
	for _, part := range [][]byte{bare[2:], bare[:20], bare[:0]} { // the CRC of fewer bytes
		refuses(t, string(binary.BigEndian.AppendUint32(slices.Clone(bare), crc32.ChecksumIEEE(part))), api.ErrForm)
	}
	refuses(t, string(binary.LittleEndian.AppendUint32(slices.Clone(bare), crc32.ChecksumIEEE(bare))), api.ErrForm)
}

// stamped asks for the stamp of an epoch and a count, and for its parts.
func stamped(t *testing.T, epoch, count int) {
	t.Helper()
	want := uint32(epoch*65536 + count)
	if n, e := header.Stamp(epoch, count); n != want || e != api.OK {
		t.Errorf("Stamp(%d, %d): %d, %v, not %d", epoch, count, n, e, want)
	}
	if a, b := header.Parts(want); a != epoch || b != count {
		t.Errorf("Parts(%d): %d, %d, not %d, %d", want, a, b, epoch, count)
	}
}

// Promises 11.2 and 11.3: a stamp, and its parts, of all epochs and counts.
func TestStampAndParts(t *testing.T) {
	for _, a := range parts() {
		for b := range 65536 {
			stamped(t, a, b)
			stamped(t, b, a)
		}
	}
	for _, stamp := range stamps() {
		a, b := header.Parts(stamp)
		if n, e := header.Stamp(a, b); n != stamp || e != api.OK {
			t.Errorf("Stamp of Parts(%d): %d, %v", stamp, n, e)
		}
	}
}

// Promise 11.2: an epoch, or a count, that may not be.
func TestWrongStamps(t *testing.T) {
	refused := func(epoch, count int) {
		t.Helper()
		if n, e := header.Stamp(epoch, count); n != 0 || e != api.ErrArg {
			t.Errorf("Stamp(%d, %d): %d, %v", epoch, count, n, e)
		}
	}
	for _, no := range noParts() {
		for _, part := range append(parts(), noParts()...) {
			refused(no, part)
			refused(part, no)
		}
	}
}

// Promise 11.2: the smaller Base is ahead, of the same ones the smaller Stamp, as numbers without a sign; neither Log nor Gen counts.
func TestBefore(t *testing.T) {
	r := rand.New(rand.NewSource(5))
	for _, a := range append(bases(), -1, math.MinInt, math.MaxInt) {
		for _, b := range append(bases(), -1, math.MinInt, math.MaxInt) {
			for _, x := range stamps() {
				for _, y := range stamps() {
					one := header.Header{Log: r.Intn(3), Gen: r.Uint32(), Stamp: x, Base: a}
					other := header.Header{Log: r.Intn(3), Gen: r.Uint32(), Stamp: y, Base: b}
					want := a < b || a == b && x < y
					if header.Before(one, other) != want {
						t.Errorf("Before(%v, %v): not %v", one, other, want)
					}
				}
			}
		}
	}
}

// Promise 11.2: no header is ahead of one with the same Base and Stamp, be its Log or its Gen a greater one.
func TestBeforeOfTheSame(t *testing.T) {
	for _, log := range logs() {
		for _, gen := range stamps() {
			h := header.Header{Log: 2, Gen: 2, Stamp: 7, Base: 8}
			other := header.Header{Log: log, Gen: gen, Stamp: 7, Base: 8}
			if header.Before(h, other) || header.Before(other, h) {
				t.Errorf("Before of %v, %v", h, other)
			}
		}
	}
}

// The example of the chapter.
func TestExample(t *testing.T) {
	if n, e := header.Stamp(1, 2); n != 65538 || e != api.OK {
		t.Errorf("Stamp(1, 2): %d, %v", n, e)
	}
}
