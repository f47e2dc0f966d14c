package topic_test

import (
	"encoding/binary"
	"math"
	"math/rand"
	"slices"
	"strings"
	"testing"

	"weighlock/api"
	"weighlock/topic"
)

const most = 1 << 40 // of an age and of a size

const letters = "abcdefghijklmnopqrstuvwxyz0123456789-"

// isName tells whether a name may be, by the words of the chapter.
func isName(s string) bool {
	for _, b := range []byte(s) {
		if !strings.Contains(letters, string([]byte{b})) {
			return false
		}
	}
	return len(s) >= 1 && len(s) <= 12
}

// mayBe tells whether a topic may be, by the words of the chapter.
func mayBe(s api.Spec) bool {
	return isName(s.Name) && s.Parts >= 1 && s.Parts <= 4 && s.Age >= 0 && s.Age <= most && s.Size >= 0 && s.Size <= most
}

// laid are a name with its length, numbers as chains, and what stands behind.
func laid(name string, parts, age, size uint64, behind string) string {
	b := append(binary.AppendUvarint(nil, uint64(len(name))), name...)
	for _, n := range []uint64{parts, age, size} {
		b = binary.AppendUvarint(b, n)
	}
	return string(b) + behind
}

// bytes are those of a topic that may be.
func bytes(s api.Spec) string {
	last := "\x00"
	if s.Compact {
		last = "\x01"
	}
	return laid(s.Name, uint64(s.Parts), uint64(s.Age), uint64(s.Size), last)
}

// cut is the topic with which bytes begin, by the words of the chapter; false, if there is none.
func cut(s string) (api.Spec, int, bool) {
	at := 0
	number := func() uint64 {
		v, n := binary.Uvarint([]byte(s[at:]))
		if n <= 0 || n > 1 && s[at+n-1] == 0 || v > most { // none, or one of too many bytes, or one that no topic has
			at = len(s)
			return most + 1
		}
		at += n
		return v
	}
	var x api.Spec
	long := number()
	if long > uint64(len(s)-at) {
		return api.Spec{}, 0, false
	}
	x.Name = s[at : at+int(long)]
	at += int(long)
	x.Parts, x.Age, x.Size = int(number()), int(number()), int(number())
	if !mayBe(x) || at == len(s) || s[at] > 1 {
		return api.Spec{}, 0, false
	}
	x.Compact = s[at] == 1
	return x, at + 1, true
}

// decodes asks for the topic with which bytes begin; it tells whether there is one.
func decodes(t *testing.T, s string) bool {
	t.Helper()
	want, size, ok := cut(s)
	e := api.OK
	if !ok {
		e = api.ErrForm
	}
	for range 2 {
		if x, n, err := topic.Decode(s); x != want || n != size || err != e {
			t.Fatalf("Decode(%x): %v, %d, %v, not %v, %d, %v", s, x, n, err, want, size, e)
		}
	}
	return ok
}

// asks asks of a topic all that the chapter says, but of its places; it tells whether it may be.
func asks(t *testing.T, s api.Spec) bool {
	t.Helper()
	right := mayBe(s)
	for range 2 {
		if topic.Right(s) != right {
			t.Fatalf("Right(%v): not %v", s, right)
		}
		b, e := topic.Encode(s)
		if !right {
			if b != "" || e != api.ErrArg {
				t.Fatalf("Encode(%v): %x, %v", s, b, e)
			}
			continue
		}
		if b != bytes(s) || e != api.OK {
			t.Fatalf("Encode(%v): %x, %v, not %x", s, b, e, bytes(s))
		}
		for _, behind := range []string{"", "\x00", "\x01", "x", b, "\xff\xff"} {
			if x, n, e := topic.Decode(b + behind); x != s || n != len(b) || e != api.OK {
				t.Fatalf("Decode of Encode(%v), with %x behind: %v, %d, %v", s, behind, x, n, e)
			}
		}
	}
	return right
}

// The example of the chapter.
func TestExample(t *testing.T) {
	x := api.Spec{Name: "log-1", Parts: 2, Size: 300, Compact: true}
	if s, e := topic.Encode(x); s != "\x05log-1\x02\x00\xac\x02\x01" || e != api.OK {
		t.Errorf("Encode: %x, %v", s, e)
	}
	asks(t, x)
}

// Promise 22.1: names of one byte, and of two, whatever these are.
func TestLetters(t *testing.T) {
	may := 0
	for b := range 256 {
		one := string([]byte{byte(b)})
		for _, s := range []string{one, "a" + one, one + "a", "a" + one + "a", strings.Repeat("z", 11) + one, one + strings.Repeat("0", 11)} {
			if topic.Name(s) != isName(s) {
				t.Errorf("Name(%q): not %v", s, isName(s))
			}
			if topic.Name(s) {
				may++
			}
			asks(t, api.Spec{Name: s, Parts: 1})
		}
	}
	if may != 6*37 {
		t.Errorf("%d names may be", may)
	}
}

// Promise 22.1: names of any length.
func TestLengths(t *testing.T) {
	for long := range 300 {
		s := strings.Repeat("-", long)
		if topic.Name(s) != (long >= 1 && long <= 12) {
			t.Errorf("Name of %d letters", long)
		}
		asks(t, api.Spec{Name: s, Parts: 1})
		decodes(t, laid(s, 1, 0, 0, "\x00"))
	}
	for s, want := range map[string]bool{"": false, "-": true, "abcdefghijkl": true, "abcdefghijklm": false, "é": false, "log_1": false, "log.1": false, "Log": false, "a b": false, "a\x00": false, "------------": true, "012345678901": true} {
		if topic.Name(s) != want {
			t.Errorf("Name(%q): not %v", s, want)
		}
	}
}

// Promises 22.1 and 22.3: which topics may be, by their numbers, and these as bytes.
func TestNumbers(t *testing.T) {
	numbers := []int{math.MinInt, -most, -2, -1, 0, 1, 127, 128, 300, 1 << 14, 1 << 32, most - 1, most, most + 1, 1 << 62, math.MaxInt}
	may := 0
	for parts := -2; parts < 8; parts++ {
		for _, age := range numbers {
			for _, size := range numbers {
				for _, compacted := range []bool{false, true} {
					if asks(t, api.Spec{Name: "a", Parts: parts, Age: age, Size: size, Compact: compacted}) {
						may++
					}
				}
			}
		}
	}
	if may != 4*9*9*2 {
		t.Errorf("%d topics may be", may)
	}
	for _, parts := range append(numbers, 256+1, 1<<32+1, math.MinInt+1) {
		asks(t, api.Spec{Name: "a", Parts: parts})
	}
}

// Promise 22.1: bytes of which a topic's are cut off at their end, or turned at one place, or have some put in between.
func TestDecode(t *testing.T) {
	told := map[bool]int{}
	for _, x := range []api.Spec{{Name: "a", Parts: 1}, {Name: "log-1", Parts: 2, Size: 300, Compact: true}, {Name: "abcdefghijkl", Parts: 4, Age: most, Size: most}, {Name: "--0", Parts: 3, Age: 127, Size: 128, Compact: true}} {
		s := bytes(x)
		for i := range len(s) {
			if decodes(t, s[:i]) {
				t.Errorf("a topic of %x", s[:i])
			}
			for b := range 256 {
				one := string([]byte{byte(b)})
				told[decodes(t, s[:i]+one+s[i+1:])]++
				told[decodes(t, s[:i]+one+s[i:])]++
			}
			decodes(t, s[:i]+s[i+1:])
		}
	}
	if min(told[true], told[false]) < 1000 {
		t.Errorf("too few kinds of bytes: %v", told)
	}
}

// Promise 22.1: numbers that no topic has, and chains that are none.
func TestWrongBytes(t *testing.T) {
	for _, n := range []uint64{most + 1, 1 << 41, 1 << 62, 1 << 63, 1<<63 + 1, 1<<64 - 1, 1<<64 - most} {
		for _, s := range []string{laid("a", n, 0, 0, "\x00"), laid("a", 1, n, 0, "\x00"), laid("a", 1, 0, n, "\x00")} {
			if decodes(t, s) {
				t.Errorf("a topic of %x", s)
			}
		}
		if s := string(binary.AppendUvarint(nil, n)); decodes(t, s) || decodes(t, s+"a\x01\x00\x00\x00") {
			t.Errorf("a topic with a name of %d bytes", n)
		}
	}
	for _, n := range []uint64{0, 5, 6, 127, 128, 256, 257, 1<<32 + 1, 1<<63 + 1, 1<<64 - 1} {
		if s := laid("a", n, 0, 0, "\x01"); decodes(t, s) {
			t.Errorf("a topic of %x", s)
		}
	}
	for _, s := range []string{
		"", "\x00", "\x00\x01\x00\x00\x00", "\x01", "\x01a", "\x01a\x01", "\x01a\x01\x00", "\x01a\x01\x00\x00",
		"\x81\x00a\x01\x00\x00\x00", "\x01a\x81\x00\x00\x00\x00", "\x01a\x01\x80\x00\x00\x00", "\x01a\x01\x00\x80\x00\x00", "\x01a\x01\x00\x00\x80\x00", "\x01a\x01\x00\x00\x81\x00", // more bytes than it takes
		"\x01a\x01\x00\x00\x02", "\x01a\x01\x00\x00\xff", "\x01A\x01\x00\x00\x00", "\x01a\xff\xff\xff\xff\xff\xff\xff\xff\xff\xff\x00\x00\x00", "\x01a\x01" + strings.Repeat("\xff", 20),
	} {
		if decodes(t, s) {
			t.Errorf("a topic of %x", s)
		}
	}
	if !decodes(t, "\x01a\x01\x00\x00\x01") || !decodes(t, "\x01a\x01\x00\x00\x00\xff") {
		t.Error("no topic of bytes that are right")
	}
}

// random is any topic, that often may be.
func random(r *rand.Rand) api.Spec {
	number := func() int { return r.Intn(most+1) >> r.Intn(41) }
	x := api.Spec{Parts: 1 + r.Intn(4), Age: number(), Size: number(), Compact: r.Intn(2) == 0}
	for range 1 + r.Intn(12) {
		x.Name += letters[r.Intn(len(letters)):][:1]
	}
	switch r.Intn(12) {
	case 0:
		x.Parts = r.Intn(10) - 3
	case 1:
		x.Age = r.Intn(4*most) - most
	case 2:
		x.Size = r.Intn(4*most) - most
	case 3:
		x.Name += strings.Repeat("x", r.Intn(12))
	case 4:
		x.Name = x.Name[:r.Intn(len(x.Name))] + string([]byte{byte(r.Intn(256))})
	}
	return x
}

// Promises 22.1 and 22.3: of any topics, and any bytes, what is told is what the words say.
func TestAgainstTheWords(t *testing.T) {
	r := rand.New(rand.NewSource(1))
	specs, bits := map[bool]int{}, map[bool]int{}
	for range 20000 {
		x := random(r)
		specs[asks(t, x)]++
		s := []byte(bytes(x) + bytes(random(r)))
		for range r.Intn(3) {
			s[r.Intn(20)%len(s)] ^= 1 << r.Intn(8)
		}
		bits[decodes(t, string(s))]++
		decodes(t, string(s[r.Intn(len(s)):]))
	}
	if min(specs[true], specs[false], bits[true], bits[false]) < 1000 {
		t.Errorf("too few kinds of topics, or of bytes: %v, %v", specs, bits)
	}
}

// Promise 22.2: the places of a topic, by their numbers.
func TestPlaces(t *testing.T) {
	for parts := 1; parts <= 4; parts++ {
		x := api.Spec{Name: "a-1", Parts: parts, Age: 5, Size: most, Compact: parts%2 == 0}
		want := []api.Place{{Topic: "a-1", Part: 0}, {Topic: "a-1", Part: 1}, {Topic: "a-1", Part: 2}, {Topic: "a-1", Part: 3}}[:parts]
		for range 2 {
			if l := topic.Places(x); !slices.Equal(l, want) {
				t.Errorf("Places(%v): %v", x, l)
			}
		}
		for _, part := range []int{math.MinInt, -2, -1, 0, 1, 2, 3, 4, 5, 256, 1 << 32, math.MaxInt} {
			for _, name := range []string{"a-1", "a-", "a-11", "A-1", "", "b"} {
				p := api.Place{Topic: name, Part: part}
				if topic.Has(x, p) != slices.Contains(want, p) {
					t.Errorf("Has(%v, %v): not %v", x, p, slices.Contains(want, p))
				}
			}
		}
	}
}

// Promise 22.2: a topic that may not be has no places.
func TestNoPlaces(t *testing.T) {
	for _, x := range []api.Spec{
		{}, {Name: "a"}, {Parts: 1}, {Name: "A", Parts: 1}, {Name: "abcdefghijklm", Parts: 2}, {Name: "a", Parts: 5}, {Name: "a", Parts: -1}, {Name: "a", Parts: math.MaxInt}, {Name: "a", Parts: math.MinInt},
		{Name: "a", Parts: 1, Age: -1}, {Name: "a", Parts: 1, Size: -1}, {Name: "a", Parts: 1, Age: most + 1}, {Name: "a", Parts: 1, Size: most + 1},
	} {
		if l := topic.Places(x); len(l) != 0 {
			t.Errorf("Places(%v): %v", x, l)
		}
		for part := -1; part < 6; part++ {
			if topic.Has(x, api.Place{Topic: x.Name, Part: part}) {
				t.Errorf("%v has the place %d", x, part)
			}
		}
	}
}

// Promise 22.2: Has tells of just those places that Places tells.
func TestPlacesAndHas(t *testing.T) {
	r := rand.New(rand.NewSource(2))
	for range 5000 {
		x := random(r)
		l := topic.Places(x)
		want := 0
		if mayBe(x) {
			want = x.Parts
		}
		if len(l) != want {
			t.Fatalf("Places(%v): %v", x, l)
		}
		for part := -1; part < 7; part++ {
			p := api.Place{Topic: x.Name, Part: part}
			if topic.Has(x, p) != slices.Contains(l, p) {
				t.Fatalf("Has(%v, %v): not %v", x, p, slices.Contains(l, p))
			}
		}
	}
}

// Rule R3: places that are told share no memory.
func TestMemory(t *testing.T) {
	x := api.Spec{Name: "a", Parts: 3}
	l, other := topic.Places(x), topic.Places(x)
	clear(l[:cap(l)])
	if again := topic.Places(x); !slices.Equal(other, again) || len(again) != 3 || again[2].Topic != "a" {
		t.Errorf("places are shared: %v, %v", other, again)
	}
}
