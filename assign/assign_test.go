package assign_test

import (
	"maps"
	"math"
	"math/rand"
	"slices"
	"strings"
	"testing"

	"weighlock/api"
	"weighlock/assign"
)

// The example of the chapter.
func TestExample(t *testing.T) {
	l, e := assign.Range([]string{"a", "b"}, 3)
	if e != api.OK || len(l) != 2 || !slices.Equal(l["a"], []int{0, 1}) || !slices.Equal(l["b"], []int{2}) {
		t.Errorf("%v, %v", l, e)
	}
}

// Promise 28.1: members in any order are told rising.
func TestSorted(t *testing.T) {
	for _, c := range []struct{ members, want string }{{"", ""}, {"a", "a"}, {"b a", "a b"}, {"a b", "a b"}, {"a-b a ab a0 0 - 12", "- 0 12 a a-b a0 ab"}, {"abcdefghijkl abcdefghijk", "abcdefghijk abcdefghijkl"}} {
		members := strings.Fields(c.members)
		handed := slices.Clone(members)
		got, e := assign.Sorted(members)
		if strings.Join(got, " ") != c.want || e != api.OK || !slices.Equal(members, handed) {
			t.Errorf("%q: %q, %v, %q was handed in", c.members, got, e, members)
		}
		clear(got)
		if !slices.Equal(members, handed) {
			t.Errorf("%q: it shares memory", c.members)
		}
	}
}

// wrongs are members that may not be.
func wrongs() map[string][]string {
	return map[string][]string{
		"no name":  {"a", ""},
		"capital":  {"A"},
		"long":     {"b", "abcdefghijklm", "a"},
		"blank":    {"a b"},
		"no text":  {"a\xff"},
		"both":     {"a", "a", "A"},
		"both too": {"B", "a", "a"},
	}
}

// refuses asks all calls for an error.
func refuses(t *testing.T, members []string, parts int, want api.Errno) {
	t.Helper()
	if l, e := assign.Range(members, parts); len(l) != 0 || e != want {
		t.Errorf("Range(%q, %d): %v, %v, not %v", members, parts, l, e, want)
	}
	for _, name := range append(slices.Clone(members), "x", "") {
		if l, e := assign.Of(members, parts, name); len(l) != 0 || e != want {
			t.Errorf("Of(%q, %d, %q): %v, %v, not %v", members, parts, name, l, e, want)
		}
	}
	for part := -1; part < 6; part++ {
		if m, e := assign.Owner(members, parts, part); m != "" || e != want {
			t.Errorf("Owner(%q, %d, %d): %q, %v, not %v", members, parts, part, m, e, want)
		}
	}
}

// Promises 28.1 and 28.2: members that may not be, or stand twice, and numbers of partitions that may not be.
func TestWrongs(t *testing.T) {
	some := []int{0, 1, 4, -1, 5, math.MaxInt, math.MinInt}
	for what, members := range wrongs() {
		if l, e := assign.Sorted(members); len(l) != 0 || e != api.ErrArg {
			t.Errorf("%s: %q, %v", what, l, e)
		}
		for _, parts := range some {
			refuses(t, members, parts, api.ErrArg)
		}
	}
	for _, members := range [][]string{{"a", "a"}, {"a", "b", "a"}, {"b", "a", "c", "b"}, {"x", "x", "x"}} {
		if l, e := assign.Sorted(members); len(l) != 0 || e != api.ErrSame {
			t.Errorf("%q: %q, %v", members, l, e)
		}
		for _, parts := range some {
			refuses(t, members, parts, api.ErrSame)
		}
	}
	for _, members := range [][]string{nil, {"a"}, {"b", "a"}} {
		for _, parts := range some[3:] {
			refuses(t, members, parts, api.ErrArg)
		}
	}
}

// named are so many names, in some order.
func named(r *rand.Rand, n int) []string {
	var l []string
	for _, i := range r.Perm(n) {
		l = append(l, "m"+string([]byte{byte('0' + i/10), byte('0' + i%10)}))
	}
	return l
}

// Promises 28.1 to 28.4: of any number of members and partitions, in any order.
func TestRange(t *testing.T) {
	r := rand.New(rand.NewSource(1))
	for n := range 13 {
		for parts := range 5 {
			for range 5 {
				check(t, named(r, n), parts)
			}
		}
	}
	check(t, named(r, 99), 4)
}

// check asks for an assignment, by the words of the chapter.
func check(t *testing.T, members []string, parts int) {
	t.Helper()
	handed := slices.Clone(members)
	l, e := assign.Range(members, parts)
	if e != api.OK || len(l) != len(members) {
		t.Fatalf("%q, %d: %v, %v", members, parts, l, e)
	}
	next := 0
	for i, name := range slices.Sorted(slices.Values(members)) {
		many := parts / len(members)
		if i < parts%len(members) {
			many++
		}
		own, there := l[name]
		if !there || len(own) != many {
			t.Fatalf("%q of %q, %d: %v", name, members, parts, l)
		}
		for _, part := range own {
			if m, e := assign.Owner(members, parts, part); part != next || m != name || e != api.OK {
				t.Fatalf("%q, %d: %v, %q has %d, %v", members, parts, l, m, part, e)
			}
			next++
		}
		if of, e := assign.Of(members, parts, name); !slices.Equal(of, own) || e != api.OK {
			t.Fatalf("%q of %q, %d: %v, %v", name, members, parts, of, e)
		}
	}
	for _, part := range []int{-1, parts, parts + 1, math.MaxInt, math.MinInt} {
		if m, e := assign.Owner(members, parts, part); m != "" || e != api.ErrNone {
			t.Errorf("%q, %d: %q has %d, %v", members, parts, m, part, e)
		}
	}
	for _, name := range []string{"", "m", "m000", "x"} {
		if of, e := assign.Of(members, parts, name); len(of) != 0 || e != api.ErrNone {
			t.Errorf("%q of %q: %v, %v", name, members, of, e)
		}
	}
	if len(members) == 0 {
		if m, e := assign.Owner(members, parts, 0); m != "" || e != api.ErrNone {
			t.Errorf("%q has 0, %v", m, e)
		}
	}
	if !slices.Equal(members, handed) {
		t.Errorf("%q was handed in", members)
	}
}

// Rules R3 and R6: lists of an answer share no memory, and it is told anew each time.
func TestOwnMemory(t *testing.T) {
	members := []string{"b", "a"}
	want, _ := assign.Range(members, 4)
	l, _ := assign.Range(members, 4)
	l["a"] = append(l["a"], 9)
	if !slices.Equal(l["b"], []int{2, 3}) {
		t.Errorf("%v", l)
	}
	clear(l["b"])
	clear(l)
	again, _ := assign.Range(members, 4)
	if !maps.EqualFunc(want, again, slices.Equal) {
		t.Errorf("%v, not %v", again, want)
	}
}
