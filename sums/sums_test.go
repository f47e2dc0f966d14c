package sums_test

import (
	"hash/crc32"
	"hash/fnv"
	"strings"
	"testing"

	"weighlock/sums"
)

// numbers are some that spread over all bits, always the same.
func numbers(n int) []uint32 {
	out := []uint32{0, 1, 0x80000000, 0xffffffff, 0x7fffffff, 0xedb88320}
	x := uint64(7)
	for len(out) < n {
		x = x*6364136223846793005 + 1442695040888963407
		out = append(out, uint32(x>>32))
	}
	return out
}

// texts are some of many lengths, of bytes that spread over all bits.
func texts() []string {
	out := []string{"", "a", "123456789", strings.Repeat("\x00", 40), strings.Repeat("\xff", 40)}
	for i := 1; i <= 70; i++ {
		b := make([]byte, i)
		for j, x := range numbers(i + 6)[6:] {
			b[j] = byte(x >> (i % 24))
		}
		out = append(out, string(b))
	}
	return out
}

// crcOf is the CRC by its definition, bit by bit.
func crcOf(begin uint32, s string) uint32 {
	register := ^begin
	for _, b := range []byte(s) {
		for i := range 8 {
			in := uint32(b>>i) & 1
			out := register&1 ^ in
			register = register>>1 ^ out*0xedb88320
		}
	}
	return ^register
}

// Promise 2.1: values that are known.
func TestKnownCrcs(t *testing.T) {
	for _, c := range []struct {
		begin uint32
		s     string
		want  uint32
	}{
		{0, "", 0},
		{7, "", 7},
		{0xffffffff, "", 0xffffffff},
		{0, "a", 0xe8b7be43},
		{0, "abc", 0x352441c2},
		{0, "123456789", 0xcbf43926},
		{0, "\x00", 0xd202ef8d},
		{0, "\x00\x00\x00\x00", 0x2144df1c},
		{0, "\xff\xff\xff\xff", 0xffffffff},
		{0, "The quick brown fox jumps over the lazy dog", 0x414fa339},
	} {
		if v := sums.Crc(c.begin, c.s); v != c.want {
			t.Errorf("Crc(%x, %q): %x", c.begin, c.s, v)
		}
	}
}

// Promise 2.1: from any beginning on, by the definition and by the library's own.
func TestCrcByItsDefinition(t *testing.T) {
	for _, begin := range numbers(30) {
		for _, s := range texts() {
			want := crcOf(begin, s)
			if library := crc32.Update(begin, crc32.IEEETable, []byte(s)); library != want {
				t.Fatalf("the test itself is wrong: %x, %x", want, library)
			}
			if v := sums.Crc(begin, s); v != want {
				t.Fatalf("Crc(%x, %x): %x, not %x", begin, s, v, want)
			}
		}
	}
}

// Promise 2.1: the digest.
func TestDigest(t *testing.T) {
	for _, c := range []struct {
		s    string
		want uint64
	}{
		{"", 0xcbf29ce484222325},
		{"a", 0xaf63dc4c8601ec8c},
		{"foobar", 0x85944171f73967e8},
		{"\x00", 0xaf63bd4c8601b7df},
	} {
		if v := sums.Digest(c.s); v != c.want {
			t.Errorf("Digest(%q): %x", c.s, v)
		}
	}
	for _, s := range texts() {
		library := fnv.New64a()
		library.Write([]byte(s))
		if v := sums.Digest(s); v != library.Sum64() {
			t.Errorf("Digest(%x): %x", s, v)
		}
	}
}

// Promise 2.2: a sum of pieces is the CRC of all of them.
func TestSum(t *testing.T) {
	for _, begin := range numbers(10) {
		x := sums.New(begin)
		if v := x.Value(); v != begin {
			t.Errorf("Value of nothing from %x on: %x", begin, v)
		}
		all := ""
		for _, s := range texts() {
			x.Add(s)
			all += s
			if v := x.Value(); v != sums.Crc(begin, all) {
				t.Fatalf("Value of %d bytes from %x on: %x", len(all), begin, v)
			}
			if v := x.Value(); v != sums.Crc(begin, all) {
				t.Fatalf("Value, asked again: %x", v)
			}
		}
	}
}

// Promise 2.2: each sum is one of its own.
func TestSumsApart(t *testing.T) {
	a, b := sums.New(0), sums.New(0)
	a.Add("12345")
	b.Add("abc")
	a.Add("")
	a.Add("6789")
	if a.Value() != 0xcbf43926 || b.Value() != 0x352441c2 {
		t.Errorf("%x, %x", a.Value(), b.Value())
	}
}

// Promise 2.2: nothing is added to nil.
func TestNilSum(t *testing.T) {
	var x *sums.Sum
	if x.Value() != 0 {
		t.Errorf("Value: %x", x.Value())
	}
	x.Add("abc")
	x.Add("")
	if x.Value() != 0 {
		t.Errorf("Value behind Add: %x", x.Value())
	}
	if sums.New(0) == nil {
		t.Error("New: nil")
	}
}

// Promise 2.3: a CRC is a beginning for what follows.
func TestCrcGoesOn(t *testing.T) {
	for _, begin := range numbers(8) {
		for _, s := range texts() {
			want := sums.Crc(begin, s)
			for cut := range len(s) + 1 {
				if v := sums.Crc(sums.Crc(begin, s[:cut]), s[cut:]); v != want {
					t.Fatalf("Crc(%x, %x), cut at %d: %x, not %x", begin, s, cut, v, want)
				}
			}
		}
	}
}

// Promise 2.4: one bit more or less is always noticed.
func TestOneBit(t *testing.T) {
	for _, begin := range numbers(8) {
		for _, s := range texts() {
			whole := sums.Crc(begin, s)
			for bit := range 8 * len(s) {
				other := []byte(s)
				other[bit/8] ^= 1 << (bit % 8)
				if sums.Crc(begin, string(other)) == whole {
					t.Fatalf("Crc(%x, %x): the same with the bit %d turned", begin, s, bit)
				}
			}
		}
	}
}

// Promise 2.4: so is whatever differs within four bytes in a row.
func TestFourBytes(t *testing.T) {
	turns := append(numbers(200), 0x01010101, 0xff00ff00, 0x0000ffff, 0xedb88321, 0xdb710641)
	for i := range 32 {
		for j := range i {
			turns = append(turns, 1<<i|1<<j)
		}
	}
	for _, s := range texts() {
		if len(s) > 12 { // a CRC goes on from its bytes alone: how many lie ahead or behind matters little
			continue
		}
		whole := sums.Crc(7, s)
		for at := range len(s) {
			for _, turn := range turns {
				other := []byte(s)
				for i := range min(4, len(s)-at) {
					other[at+i] ^= byte(turn >> (8 * i))
				}
				if string(other) != s && sums.Crc(7, string(other)) == whole {
					t.Fatalf("Crc(7, %x): the same with %x turned at %d", s, turn, at)
				}
			}
		}
	}
}

// Promise 2.5: how two beginnings' CRCs differ hangs on the beginnings' difference, and on the length.
func TestTwoBeginnings(t *testing.T) {
	for _, length := range []int{0, 1, 3, 4, 5, 17, 64} {
		for _, turn := range numbers(20) {
			want := sums.Crc(0, strings.Repeat("\x00", length)) ^ sums.Crc(turn, strings.Repeat("\x00", length))
			for _, a := range numbers(20) {
				for _, letter := range []string{"\x00", "x", "\xff"} {
					s := strings.Repeat(letter, length)
					if v := sums.Crc(a, s) ^ sums.Crc(a^turn, s); v != want {
						t.Fatalf("Crc(%x, %x) xor Crc(%x, the same): %x, not %x", a, s, a^turn, v, want)
					}
				}
			}
		}
	}
}
