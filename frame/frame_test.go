package frame_test

import (
	"encoding/binary"
	"encoding/hex"
	"hash/crc32"
	"math"
	"math/rand"
	"strings"
	"testing"

	"weighlock/api"
	"weighlock/frame"
)

// layout is a frame as bytes, by the words of the chapter, of whatever kind, place and payload.
func layout(stamp uint32, at int, f api.Frame) string {
	told := binary.BigEndian.AppendUint16(nil, uint16(len(f.Payload)+1))
	summed := binary.BigEndian.AppendUint32(nil, stamp)
	summed = binary.BigEndian.AppendUint16(summed, uint16(at))
	summed = append(summed, told...)
	summed = append(summed, byte(f.Kind))
	summed = append(summed, f.Payload...)
	whole := binary.BigEndian.AppendUint32(told, crc32.ChecksumIEEE(summed))
	whole = append(whole, byte(f.Kind))
	return string(append(whole, f.Payload...))
}

// payload is so many bytes that spread over all values.
func payload(r *rand.Rand, n int) string {
	b := make([]byte, n)
	r.Read(b)
	return string(b)
}

// lengths are some of those that payloads may have.
func lengths() []int {
	return []int{0, 1, 2, 3, 44, 45, 46, 51, 52, 53, 97, 254, 255, 256, 257, 511, 512, 771, 772, 773}
}

// stamps are some that spread over all bits.
func stamps() []uint32 { return []uint32{0, 1, 255, 65536, 65538, 1 << 31, 0x01020304, math.MaxUint32} }

// wrongPlaces are places at which no frame may lie.
func wrongPlaces() []int { return []int{0, -1, 16, 17, 65536 + 4, math.MaxInt, math.MinInt} }

// encoded is a frame that may be, as bytes.
func encoded(t *testing.T, stamp uint32, at int, f api.Frame) string {
	t.Helper()
	s, e := frame.Encode(stamp, at, f)
	if e != api.OK {
		t.Fatalf("Encode(%d, %d, %d bytes of kind %d): %v", stamp, at, len(f.Payload), f.Kind, e)
	}
	return s
}

// tells asks for what bytes begin with.
func tells(t *testing.T, stamp uint32, at int, s string, want api.Frame, size int) {
	t.Helper()
	if f, n, e := frame.Decode(stamp, at, s); f != want || n != size || e != api.OK {
		t.Errorf("Decode(%d, %d, %d bytes): %v, %d, %v, not %d", stamp, at, len(s), f, n, e, size)
	}
}

// refuses asks for an error, and nothing beside it.
func refuses(t *testing.T, stamp uint32, at int, s string, want api.Errno) {
	t.Helper()
	if f, n, e := frame.Decode(stamp, at, s); f != (api.Frame{}) || n != 0 || e != want {
		t.Errorf("Decode(%d, %d, %x): %v, %d, %v, not %v", stamp, at, s, f, n, e, want)
	}
}

// Promise 8.1: bytes that are known, written out.
func TestKnownBytes(t *testing.T) {
	for _, c := range []struct {
		stamp uint32
		at    int
		f     api.Frame
		want  string
	}{
		{0, 1, api.Frame{Kind: 1}, "000130a9721c01"},
		{9, 4, api.Frame{Kind: 5, Payload: "hello"}, "00063435e35c0568656c6c6f"},
		{0xfffffffe, 15, api.Frame{Kind: 255, Payload: "\x00\xff"}, "0003432c393aff00ff"},
	} {
		if s := encoded(t, c.stamp, c.at, c.f); hex.EncodeToString([]byte(s)) != c.want {
			t.Errorf("Encode(%d, %d, %v): %x, not %s", c.stamp, c.at, c.f, s, c.want)
		}
	}
}

// Promises 8.1, 8.2 and 8.4: of all kinds, places and lengths, whatever stands behind.
func TestBytes(t *testing.T) {
	r := rand.New(rand.NewSource(1))
	holds := func(stamp uint32, at int, f api.Frame) {
		t.Helper()
		s := encoded(t, stamp, at, f)
		if want := layout(stamp, at, f); s != want {
			t.Fatalf("Encode(%d, %d, %v): %x, not %x", stamp, at, f, s, want)
		}
		if frame.Size(f) != len(s) || len(s) != len(f.Payload)+7 {
			t.Errorf("Size of %d bytes: %d", len(s), frame.Size(f))
		}
		for _, behind := range []string{"", "\x00", "\xff", "more", s, strings.Repeat("\x00", 52)} {
			tells(t, stamp, at, s+behind, f, len(s))
		}
	}
	for _, n := range lengths() {
		for _, stamp := range stamps() {
			holds(stamp, 1+r.Intn(15), api.Frame{Kind: 1 + r.Intn(255), Payload: payload(r, n)})
		}
	}
	for kind := 1; kind <= 255; kind++ {
		for at := 1; at <= 15; at++ {
			holds(r.Uint32(), at, api.Frame{Kind: kind, Payload: payload(r, r.Intn(20))})
		}
	}
}

// Promise 8.1: frames and places that may not be; a payload that is too long is told behind them.
func TestWrongFrames(t *testing.T) {
	most, over := strings.Repeat("x", 773), strings.Repeat("x", 774)
	refused := func(at int, f api.Frame, want api.Errno) {
		t.Helper()
		if s, e := frame.Encode(7, at, f); s != "" || e != want {
			t.Errorf("Encode(7, %d, kind %d, %d bytes): %q, %v, not %v", at, f.Kind, len(f.Payload), s, e, want)
		}
	}
	for _, text := range []string{"", "x", most, over} {
		for _, kind := range []int{0, -1, 256, 257, math.MaxInt, math.MinInt} {
			refused(1, api.Frame{Kind: kind, Payload: text}, api.ErrArg)
			refused(16, api.Frame{Kind: kind, Payload: text}, api.ErrArg)
		}
		for _, at := range wrongPlaces() {
			refused(at, api.Frame{Kind: 1, Payload: text}, api.ErrArg)
		}
	}
	for _, text := range []string{over, over + "x", strings.Repeat("x", 65535), strings.Repeat("x", 65536+5)} {
		refused(1, api.Frame{Kind: 1, Payload: text}, api.ErrLong)
		refused(15, api.Frame{Kind: 255, Payload: text}, api.ErrLong)
	}
	if s := encoded(t, 7, 15, api.Frame{Kind: 255, Payload: most}); len(s) != 780 {
		t.Errorf("the greatest frame: %d bytes", len(s))
	}
}

// Promise 8.1: how many bytes, also of a frame that may not be.
func TestSize(t *testing.T) {
	for _, kind := range []int{-1, 0, 1, 255, 256} {
		for _, n := range []int{0, 1, 773, 774, 70000} {
			if size := frame.Size(api.Frame{Kind: kind, Payload: strings.Repeat("x", n)}); size != n+7 {
				t.Errorf("Size of kind %d and %d bytes: %d", kind, n, size)
			}
		}
	}
}

// Promise 8.2: a place that may not be is told ahead of all else.
func TestDecodeAtWrongPlaces(t *testing.T) {
	f := api.Frame{Kind: 3, Payload: "abc"}
	for _, at := range wrongPlaces() {
		for _, s := range []string{"", "\x00", "\x00\x00", "\xff\xff", "\x00\x09x", layout(7, at, f)} {
			refuses(t, 7, at, s, api.ErrArg)
		}
	}
}

// Promise 8.2: bytes that are cut off anywhere.
func TestCutOff(t *testing.T) {
	r := rand.New(rand.NewSource(2))
	for _, n := range []int{0, 1, 5, 60, 773} {
		f := api.Frame{Kind: 9, Payload: payload(r, n)}
		s := encoded(t, 7, 5, f)
		for cut := range len(s) {
			refuses(t, 7, 5, s[:cut], api.ErrShort)
		}
		tells(t, 7, 5, s, f, len(s))
	}
}

// Promise 8.2: the errors of the first two bytes, and in which order they are told.
func TestFirstBytes(t *testing.T) {
	for told := range 1 << 16 {
		s := string(binary.BigEndian.AppendUint16(nil, uint16(told)))
		want := api.ErrShort
		if told == 0 {
			want = api.ErrNone
		} else if told > 774 {
			want = api.ErrLong
		}
		refuses(t, 7, 1, s, want)
	}
	for _, c := range []struct {
		s    string
		want api.Errno
	}{
		{"", api.ErrShort}, {"\x00", api.ErrShort}, {"\xff", api.ErrShort},
		{strings.Repeat("\x00", 52), api.ErrNone},
		{"\x00\x00" + strings.Repeat("x", 50), api.ErrNone},
		{"\x03\x07" + strings.Repeat("x", 1000), api.ErrLong},
		{"\x03\x06" + strings.Repeat("x", 777), api.ErrShort},
		{"\x03\x06" + strings.Repeat("x", 778), api.ErrForm},
		{"\x00\x01" + strings.Repeat("x", 4), api.ErrShort},
		{"\x00\x01" + strings.Repeat("x", 5), api.ErrForm},
		{"\x00\x01\x00\x00\x00\x00\x00", api.ErrForm},
	} {
		refuses(t, 7, 1, c.s, c.want)
	}
	for at := 1; at <= 15; at++ { // a frame that is longer than may be, its CRC being right
		s := layout(7, at, api.Frame{Kind: 1, Payload: strings.Repeat("x", 774)})
		refuses(t, 7, at, s, api.ErrLong)
	}
}

// Promise 8.2: the kind 0 is none, even where the CRC is right.
func TestKindNone(t *testing.T) {
	for _, text := range []string{"", "x", strings.Repeat("\x00", 30)} {
		refuses(t, 7, 5, layout(7, 5, api.Frame{Kind: 0, Payload: text}), api.ErrForm)
	}
}

// Promise 8.2: a frame of another stamp, or of another place, is none.
func TestElsewhere(t *testing.T) {
	r := rand.New(rand.NewSource(3))
	for _, n := range []int{0, 5, 100} {
		f := api.Frame{Kind: 200, Payload: payload(r, n)}
		for bit := range 32 {
			stamp := r.Uint32()
			s := encoded(t, stamp, 8, f)
			refuses(t, stamp^1<<bit, 8, s, api.ErrForm)
			tells(t, stamp, 8, s, f, len(s))
		}
		for at := 1; at <= 15; at++ {
			s := encoded(t, 7, at, f)
			for other := 1; other <= 15; other++ {
				if other != at {
					refuses(t, 7, other, s, api.ErrForm)
				}
			}
		}
	}
}

// Promise 8.5: one bit of the CRC, the kind or the payload that is turned.
func TestOneBit(t *testing.T) {
	r := rand.New(rand.NewSource(4))
	for _, n := range []int{0, 1, 5, 46, 773} {
		for _, kind := range []int{1, 2, 128, 255} { // with one bit turned some of these are 0
			s := encoded(t, 7, 3, api.Frame{Kind: kind, Payload: payload(r, n)})
			for bit := 16; bit < 8*len(s); bit++ {
				turned := []byte(s)
				turned[bit/8] ^= 1 << (bit % 8)
				refuses(t, 7, 3, string(turned)+"behind", api.ErrForm)
			}
		}
	}
}

// Promise 8.2: how many bytes a payload has is summed too: fewer or more of them are another frame.
func TestOtherLength(t *testing.T) {
	s := encoded(t, 7, 3, api.Frame{Kind: 1, Payload: strings.Repeat("\x00", 40)})
	for told := 1; told < 100; told++ {
		if told != 41 {
			refuses(t, 7, 3, "\x00"+string([]byte{byte(told)})+s[2:]+strings.Repeat("\x00", 100), api.ErrForm)
		}
	}
}

// Promises 8.3 and 8.6: pieces are the bytes, 52 at a time, with bytes 0 behind; there are Many of them.
func TestPieces(t *testing.T) {
	r := rand.New(rand.NewSource(5))
	for n := range 1000 {
		s := payload(r, n)
		pieces := frame.Pieces(s)
		if len(pieces) != frame.Many(n) || len(pieces) != int(math.Ceil(float64(n)/52)) {
			t.Fatalf("of %d bytes: %d pieces, Many: %d", n, len(pieces), frame.Many(n))
		}
		for i, piece := range pieces {
			if len(piece) != 52 {
				t.Errorf("of %d bytes: the piece %d has %d", n, i, len(piece))
			}
		}
		all := strings.Join(pieces, "")
		if all != s+strings.Repeat("\x00", len(all)-n) {
			t.Errorf("of %d bytes: %x, not %x", n, all, s)
		}
	}
}

// Promise 8.3: how many pieces.
func TestMany(t *testing.T) {
	for _, c := range []struct{ n, want int }{
		{math.MinInt, 0}, {-53, 0}, {-52, 0}, {-51, 0}, {-1, 0}, {0, 0}, {1, 1}, {51, 1}, {52, 1}, {53, 2}, {104, 2}, {105, 3},
		{780, 15}, {781, 16}, {math.MaxInt, (math.MaxInt-1)/52 + 1},
	} {
		if m := frame.Many(c.n); m != c.want {
			t.Errorf("Many(%d): %d, not %d", c.n, m, c.want)
		}
	}
}

// Promise 8.4: of any bytes Decode tells either an error, or the frame whose bytes they begin with.
func TestAnyBytes(t *testing.T) {
	r := rand.New(rand.NewSource(6))
	for range 20000 {
		s := []byte(payload(r, r.Intn(40)))
		if len(s) > 1 {
			s[0], s[1] = 0, byte(r.Intn(40))
		}
		stamp, at := r.Uint32(), r.Intn(18)-1
		f, n, e := frame.Decode(stamp, at, string(s))
		if e != api.OK {
			if f != (api.Frame{}) || n != 0 {
				t.Fatalf("beside %v: %v, %d", e, f, n)
			}
			continue
		}
		if back := encoded(t, stamp, at, f); back != string(s[:n]) {
			t.Fatalf("Decode(%d, %d, %x): %v, %d", stamp, at, s, f, n)
		}
	}
}

// The examples of the chapter.
func TestExamples(t *testing.T) {
	s := encoded(t, 7, 1, api.Frame{Kind: 1})
	if len(s) != 7 || s[:2] != "\x00\x01" || s[6:] != "\x01" {
		t.Errorf("%x", s)
	}
	if frame.Many(53) != 2 {
		t.Errorf("Many(53): %d", frame.Many(53))
	}
}
