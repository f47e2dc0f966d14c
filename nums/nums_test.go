package nums_test

import (
	"math"
	"strings"
	"testing"

	"weighlock/api"
	"weighlock/nums"
)

// samples are numbers at and about all powers of two, and some spread over all bits.
func samples() []uint64 {
	out := []uint64{0}
	for i := range 64 {
		p := uint64(1) << i
		out = append(out, p-1, p, p+1, -p, p^0xaaaaaaaaaaaaaaaa)
	}
	x := uint64(1)
	for range 2000 {
		x = x*6364136223846793005 + 1442695040888963407
		out = append(out, x, x>>(x&63))
	}
	return out
}

// reads is the number of bytes, the highest first, by its definition.
func reads(s string) uint64 {
	v := uint64(0)
	for _, b := range []byte(s) {
		v = v*256 + uint64(b)
	}
	return v
}

// Promise 1.1: which numbers Fixed takes for each n, and what it makes of them.
func TestFixed(t *testing.T) {
	for _, c := range []struct {
		v    uint64
		n    int
		want string
	}{
		{0, 1, "\x00"},
		{5, 1, "\x05"},
		{255, 1, "\xff"},
		{5, 4, "\x00\x00\x00\x05"},
		{0x1234, 2, "\x12\x34"},
		{0x010203, 3, "\x01\x02\x03"},
		{0x0102030405, 5, "\x01\x02\x03\x04\x05"},
		{0x0102030405060708, 8, "\x01\x02\x03\x04\x05\x06\x07\x08"},
		{0, 8, "\x00\x00\x00\x00\x00\x00\x00\x00"},
		{math.MaxUint64, 8, "\xff\xff\xff\xff\xff\xff\xff\xff"},
	} {
		if s, e := nums.Fixed(c.v, c.n); s != c.want || e != api.OK {
			t.Errorf("Fixed(%#x, %d): %x, %v", c.v, c.n, s, e)
		}
	}
}

func TestFixedAtThePowers(t *testing.T) {
	for n := 1; n <= 8; n++ {
		greatest := uint64(math.MaxUint64) >> (64 - 8*n)
		if s, e := nums.Fixed(greatest, n); s != strings.Repeat("\xff", n) || e != api.OK {
			t.Errorf("Fixed(%#x, %d): %x, %v", greatest, n, s, e)
		}
		if n == 8 {
			break
		}
		for _, v := range []uint64{greatest + 1, greatest + 2, math.MaxUint64, 1 << 63} {
			if s, e := nums.Fixed(v, n); s != "" || e != api.ErrArg {
				t.Errorf("Fixed(%#x, %d): %x, %v", v, n, s, e)
			}
		}
	}
}

func TestFixedOfWrongSizes(t *testing.T) {
	for _, n := range []int{0, 9, -1, -8, 10, 64, math.MinInt, math.MaxInt} {
		for _, v := range []uint64{0, 1, 255, math.MaxUint64} {
			if s, e := nums.Fixed(v, n); s != "" || e != api.ErrArg {
				t.Errorf("Fixed(%#x, %d): %x, %v", v, n, s, e)
			}
		}
	}
}

// Promise 1.1: Read takes 1 to 8 bytes.
func TestRead(t *testing.T) {
	for _, s := range []string{
		"\x00", "\x05", "\xff", "\x00\x05", "\x01\x00", "\x12\x34\x56", "\x80\x00\x00\x00",
		"\x01\x02\x03\x04\x05\x06\x07", "\x01\x02\x03\x04\x05\x06\x07\x08",
		"\x00\x00\x00\x00\x00\x00\x00\x01", "\xff\xff\xff\xff\xff\xff\xff\xff",
	} {
		if v, e := nums.Read(s); v != reads(s) || e != api.OK {
			t.Errorf("Read(%x): %#x, %v", s, v, e)
		}
	}
	for _, s := range []string{"", strings.Repeat("\x00", 9), "\x00" + strings.Repeat("\xff", 8), strings.Repeat("\x01", 100)} {
		if v, e := nums.Read(s); v != 0 || e != api.ErrArg {
			t.Errorf("Read(%x): %#x, %v", s, v, e)
		}
	}
}

// Promise 1.7.
func TestReadOfFixed(t *testing.T) {
	for _, x := range samples() {
		for n := 1; n <= 8; n++ {
			v := x
			if n < 8 {
				v %= 1 << (8 * n)
			}
			s, e := nums.Fixed(v, n)
			if e != api.OK || len(s) != n {
				t.Fatalf("Fixed(%#x, %d): %x, %v", v, n, s, e)
			}
			if got, e := nums.Read(s); got != v || e != api.OK {
				t.Fatalf("Read(%x): %#x, %v", s, got, e)
			}
		}
	}
}

// Promise 1.2: a chain has its bits seven at a time, and as few bytes as can be.
func TestChain(t *testing.T) {
	for _, c := range []struct {
		v    uint64
		want string
	}{
		{0, "\x00"},
		{1, "\x01"},
		{127, "\x7f"},
		{128, "\x80\x01"},
		{300, "\xac\x02"},
		{1<<14 - 1, "\xff\x7f"},
		{1 << 14, "\x80\x80\x01"},
		{1<<63 - 1, "\xff\xff\xff\xff\xff\xff\xff\xff\x7f"},
		{1 << 63, "\x80\x80\x80\x80\x80\x80\x80\x80\x80\x01"},
		{math.MaxUint64, "\xff\xff\xff\xff\xff\xff\xff\xff\xff\x01"},
	} {
		if s := nums.Chain(c.v); s != c.want {
			t.Errorf("Chain(%d): %x", c.v, s)
		}
		if v, n, e := nums.Unchain(c.want); v != c.v || n != len(c.want) || e != api.OK {
			t.Errorf("Unchain(%x): %d, %d, %v", c.want, v, n, e)
		}
	}
}

func TestChainByItsDefinition(t *testing.T) {
	for _, v := range samples() {
		var want []byte
		for x := v; ; x /= 128 {
			if x < 128 {
				want = append(want, byte(x))
				break
			}
			want = append(want, byte(x%128+128))
		}
		if s := nums.Chain(v); s != string(want) {
			t.Fatalf("Chain(%#x): %x", v, s)
		}
	}
}

// Promise 1.2: the errors of Unchain, at nine, ten and more bytes.
func TestUnchainOfWrongBytes(t *testing.T) {
	high := func(n int) string { return strings.Repeat("\x80", n) }
	full := func(n int) string { return strings.Repeat("\xff", n) }
	for _, c := range []struct {
		s    string
		want api.Errno
	}{
		{"", api.ErrShort},
		{"\x80", api.ErrShort},
		{"\xff\x80", api.ErrShort},
		{high(8), api.ErrShort},
		{high(9), api.ErrShort},
		{full(9), api.ErrShort},
		{high(10), api.ErrForm},
		{full(10), api.ErrForm},
		{full(10) + "\x01", api.ErrForm},
		{high(11), api.ErrForm},
		{high(9) + "\x02", api.ErrForm},
		{high(9) + "\x7f", api.ErrForm},
		{full(9) + "\x02", api.ErrForm},
		{full(9) + "\x81", api.ErrForm},
		{full(9) + "\x81\x00", api.ErrForm},
		{full(9) + "\x02\x01", api.ErrForm},
		{"\x80\x00", api.ErrForm},
		{"\xff\x00", api.ErrForm},
		{"\xff\xff\x00\x05", api.ErrForm},
		{full(8) + "\x00", api.ErrForm},
		{full(9) + "\x00", api.ErrForm},
		{high(9) + "\x00", api.ErrForm},
	} {
		if v, n, e := nums.Unchain(c.s); v != 0 || n != 0 || e != c.want {
			t.Errorf("Unchain(%x): %d, %d, %v", c.s, v, n, e)
		}
	}
}

// Promise 1.2: what Unchain takes is the chain of the number that it tells, and no other bytes.
func TestUnchainOfAllShortBytes(t *testing.T) {
	check := func(s string) {
		v, n, e := nums.Unchain(s)
		switch e {
		case api.OK:
			if n < 1 || n > len(s) || nums.Chain(v) != s[:n] {
				t.Fatalf("Unchain(%x): %d, %d", s, v, n)
			}
		case api.ErrShort:
			for _, b := range []byte(s) {
				if b < 0x80 {
					t.Fatalf("Unchain(%x): short", s)
				}
			}
		case api.ErrForm:
			end := strings.IndexByte(s, 0)
			if end < 1 || s[end-1] < 0x80 {
				t.Fatalf("Unchain(%x): form", s)
			}
		default:
			t.Fatalf("Unchain(%x): %v", s, e)
		}
	}
	for a := range 256 {
		check(string([]byte{byte(a)}))
		for b := range 256 {
			check(string([]byte{byte(a), byte(b)}))
			for _, c := range []byte{0, 1, 0x7f, 0x80, 0x81, 0xff} {
				check(string([]byte{byte(a), byte(b), c}))
			}
		}
	}
}

// Promise 1.5.
func TestUnchainOfChain(t *testing.T) {
	for _, v := range samples() {
		s := nums.Chain(v)
		for _, behind := range []string{"", "\x00", "\x01", "\x80", "\xff\xff", strings.Repeat("\xff", 20)} {
			if got, n, e := nums.Unchain(s + behind); got != v || n != len(s) || e != api.OK {
				t.Fatalf("Unchain(%x %x): %#x, %d, %v", s, behind, got, n, e)
			}
		}
		for short := range len(s) {
			if got, n, e := nums.Unchain(s[:short]); got != 0 || n != 0 || e != api.ErrShort {
				t.Fatalf("Unchain(%x): %#x, %d, %v", s[:short], got, n, e)
			}
		}
	}
}

// Promise 1.3.
func TestFold(t *testing.T) {
	for _, c := range []struct {
		v    int64
		want uint64
	}{
		{0, 0}, {-1, 1}, {1, 2}, {-2, 3}, {2, 4}, {-3, 5}, {3, 6},
		{math.MaxInt64, math.MaxUint64 - 1}, {math.MinInt64, math.MaxUint64},
		{math.MaxInt64 - 1, math.MaxUint64 - 3}, {math.MinInt64 + 1, math.MaxUint64 - 2},
	} {
		if x := nums.Fold(c.v); x != c.want {
			t.Errorf("Fold(%d): %d", c.v, x)
		}
		if x := nums.Unfold(c.want); x != c.v {
			t.Errorf("Unfold(%d): %d", c.want, x)
		}
	}
}

// Promise 1.6.
func TestFoldAndBack(t *testing.T) {
	for _, v := range samples() {
		if x := nums.Fold(nums.Unfold(v)); x != v {
			t.Fatalf("Fold of Unfold(%#x): %#x", v, x)
		}
		if x := nums.Unfold(nums.Fold(int64(v))); x != int64(v) {
			t.Fatalf("Unfold of Fold(%d): %d", int64(v), x)
		}
	}
}

// Promise 1.3: the low bits, also of an n that is none.
func TestLow(t *testing.T) {
	for _, v := range samples() {
		for n := 0; n < 64; n++ {
			if x := nums.Low(v, n); x != v%(1<<n) {
				t.Fatalf("Low(%#x, %d): %#x", v, n, x)
			}
		}
		for _, n := range []int{64, 65, 100, 128, 1 << 40, math.MaxInt} {
			if x := nums.Low(v, n); x != v {
				t.Fatalf("Low(%#x, %d): %#x", v, n, x)
			}
		}
		for _, n := range []int{0, -1, -63, -64, -65, math.MinInt} {
			if x := nums.Low(v, n); x != 0 {
				t.Fatalf("Low(%#x, %d): %#x", v, n, x)
			}
		}
	}
}

// Promise 1.3: the low bits, read with a sign, also of an n that is none.
func TestSigned(t *testing.T) {
	for _, v := range samples() {
		for n := 1; n < 64; n++ {
			want := int64(v % (1 << n))
			if want >= 1<<(n-1) {
				want -= 1 << (n - 1)
				want -= 1 << (n - 1)
			}
			if x := nums.Signed(v, n); x != want {
				t.Fatalf("Signed(%#x, %d): %d, not %d", v, n, x, want)
			}
		}
		for _, n := range []int{64, 65, 128, math.MaxInt} {
			if x := nums.Signed(v, n); x != int64(v) {
				t.Fatalf("Signed(%#x, %d): %d", v, n, x)
			}
		}
		for _, n := range []int{1, 0, -1, -64, math.MinInt} {
			if x := nums.Signed(v, n); x != -int64(v%2) {
				t.Fatalf("Signed(%#x, %d): %d", v, n, x)
			}
		}
	}
}

func TestSignedAtTheEdges(t *testing.T) {
	for _, c := range []struct {
		v    uint64
		n    int
		want int64
	}{
		{255, 8, -1}, {127, 8, 127}, {128, 8, -128}, {256, 8, 0}, {0x1ff, 8, -1}, {0x17f, 8, 127},
		{1 << 63, 64, math.MinInt64}, {1<<63 - 1, 64, math.MaxInt64}, {math.MaxUint64, 64, -1},
		{1 << 62, 63, -1 << 62}, {0, 1, 0}, {1, 1, -1}, {2, 1, 0},
	} {
		if x := nums.Signed(c.v, c.n); x != c.want {
			t.Errorf("Signed(%#x, %d): %d", c.v, c.n, x)
		}
	}
}

// Promise 1.4.
func TestText(t *testing.T) {
	for _, c := range []struct{ s, want string }{
		{"", "\x00"},
		{"a", "\x01a"},
		{"\x00", "\x01\x00"},
		{"\xff\x80", "\x02\xff\x80"},
		{strings.Repeat("x", 127), "\x7f" + strings.Repeat("x", 127)},
		{strings.Repeat("x", 128), "\x80\x01" + strings.Repeat("x", 128)},
		{strings.Repeat("x", 300), "\xac\x02" + strings.Repeat("x", 300)},
	} {
		if got := nums.Text(c.s); got != c.want {
			t.Errorf("Text(%q): %q", c.s, got)
		}
	}
}

// Promise 1.5.
func TestUntextOfText(t *testing.T) {
	for _, n := range []int{0, 1, 2, 126, 127, 128, 129, 1000, 1<<14 - 1, 1 << 14, 1 << 20} {
		text := strings.Repeat("\x80a\x00", n)[:n]
		s := nums.Text(text)
		for _, behind := range []string{"", "\x00", "\xff\xff", "more"} {
			if got, size, e := nums.Untext(s + behind); got != text || size != len(s) || e != api.OK {
				t.Errorf("Untext of %d bytes: %d, %d, %v", n, len(got), size, e)
			}
		}
		if n == 0 {
			continue
		}
		if got, size, e := nums.Untext(s[:len(s)-1]); got != "" || size != 0 || e != api.ErrShort {
			t.Errorf("Untext of %d bytes, one less: %d, %d, %v", n, len(got), size, e)
		}
	}
}

// Promise 1.4: the errors of Untext, in their order.
func TestUntextOfWrongBytes(t *testing.T) {
	for _, c := range []struct {
		s    string
		want api.Errno
	}{
		{"", api.ErrShort},
		{"\x80", api.ErrShort},
		{strings.Repeat("\xff", 9), api.ErrShort},
		{"\x81\x00a", api.ErrForm},
		{strings.Repeat("\xff", 10), api.ErrForm},
		{strings.Repeat("\xff", 9) + "\x02", api.ErrForm},
		{"\x01", api.ErrShort},
		{"\x03ab", api.ErrShort},
		{"\x80\x01" + strings.Repeat("x", 127), api.ErrShort},
		{nums.Chain(api.MaxInt-1) + "abc", api.ErrShort},
		{nums.Chain(api.MaxInt), api.ErrShort},
		{nums.Chain(api.MaxInt) + "abc", api.ErrShort},
		{nums.Chain(api.MaxInt + 1), api.ErrLong},
		{nums.Chain(api.MaxInt+1) + "abc", api.ErrLong},
		{nums.Chain(math.MaxInt64), api.ErrLong},
		{nums.Chain(1 << 63), api.ErrLong},
		{nums.Chain(1<<63+3) + "abc", api.ErrLong},
		{nums.Chain(math.MaxUint64) + "abc", api.ErrLong},
	} {
		if got, size, e := nums.Untext(c.s); got != "" || size != 0 || e != c.want {
			t.Errorf("Untext(%x): %q, %d, %v", c.s, got, size, e)
		}
	}
}

// Promise 1.4: an answer ends where its text ends, even where another one follows.
func TestUntextOneByOne(t *testing.T) {
	texts := []string{"a", "", "three", strings.Repeat("y", 200), "\x05"}
	s := ""
	for _, x := range texts {
		s += nums.Text(x)
	}
	for _, want := range texts {
		got, size, e := nums.Untext(s)
		if got != want || e != api.OK {
			t.Fatalf("Untext: %q, %v, not %q", got, e, want)
		}
		s = s[size:]
	}
	if s != "" {
		t.Errorf("left over: %x", s)
	}
}
