package groups_test

import (
	"math"
	"slices"
	"strings"
	"testing"

	"weighlock/api"
	"weighlock/groups"
)

const mostSlot = 1 << 40

// made is a table that may be.
func made(t *testing.T, wait int) *groups.Table {
	t.Helper()
	x, e := groups.New(wait)
	if x == nil || e != api.OK {
		t.Fatalf("New(%d): %v", wait, e)
	}
	return x
}

// of is a topic.
func of(name string, parts int) api.Spec { return api.Spec{Name: name, Parts: parts} }

// at is a place.
func at(topic string, part int) api.Place { return api.Place{Topic: topic, Part: part} }

// joins lets members join a group at a slot.
func joins(t *testing.T, x *groups.Table, group string, spec api.Spec, slot int, names ...string) {
	t.Helper()
	for _, name := range names {
		if gen, e := x.Join(group, spec, name, slot); gen != x.Gen(group) || gen == 0 || e != api.OK {
			t.Fatalf("Join(%q, %v, %q, %d): %d, %v", group, spec, name, slot, gen, e)
		}
	}
}

// noJoin asks for the error of a Join.
func noJoin(t *testing.T, x *groups.Table, group string, spec api.Spec, name string, slot int, want api.Errno) {
	t.Helper()
	if gen, e := x.Join(group, spec, name, slot); gen != 0 || e != want {
		t.Errorf("Join(%q, %v, %q, %d): %d, %v, not %v", group, spec, name, slot, gen, e, want)
	}
}

// tells asks for an error.
func tells(t *testing.T, what string, got, want api.Errno) {
	t.Helper()
	if got != want {
		t.Errorf("%s: %v, not %v", what, got, want)
	}
}

// named asks for the groups' names.
func named(t *testing.T, x *groups.Table, want string) {
	t.Helper()
	if got := strings.Join(x.Names(), " "); got != want {
		t.Errorf("Names: %q, not %q", got, want)
	}
}

// stands asks for a group's generation and members.
func stands(t *testing.T, x *groups.Table, group string, gen int, members string) {
	t.Helper()
	if got := strings.Join(x.Members(group), " "); x.Gen(group) != gen || got != members {
		t.Errorf("%q: generation %d of %q, not %d of %q", group, x.Gen(group), got, gen, members)
	}
}

// hasNot asks for the error of a Has.
func hasNot(t *testing.T, x *groups.Table, group, name string, want api.Errno) {
	t.Helper()
	if of, l, e := x.Has(group, name); of != "" || len(l) != 0 || e != want {
		t.Errorf("Has(%q, %q): %q, %v, %v, not %v", group, name, of, l, e, want)
	}
}

// has asks for what a member has.
func has(t *testing.T, x *groups.Table, group, name, topic string, parts ...int) {
	t.Helper()
	if of, l, e := x.Has(group, name); of != topic || !slices.Equal(l, parts) || e != api.OK {
		t.Errorf("Has(%q, %q): %q, %v, %v, not %q, %v", group, name, of, l, e, topic, parts)
	}
}

// The example of the chapter.
func TestExample(t *testing.T) {
	x := made(t, 2)
	if n, e := x.Join("g", of("a", 2), "m", 0); n != 1 || e != api.OK {
		t.Errorf("Join: %d, %v", n, e)
	}
	tells(t, "Owns", x.Owns("g", "m", 1, at("a", 1)), api.OK)
}

// Promise 30.1: which times to wait may be.
func TestNew(t *testing.T) {
	for wait, want := range map[int]api.Errno{
		1: api.OK, 2: api.OK, 1 << 20: api.OK, 0: api.ErrArg, -1: api.ErrArg, 1<<20 + 1: api.ErrArg, math.MinInt: api.ErrArg, math.MaxInt: api.ErrArg,
	} {
		x, e := groups.New(wait)
		if e != want || (x != nil) != (e == api.OK) {
			t.Errorf("New(%d): %v, %v", wait, x, e)
		}
		if e == api.OK {
			named(t, x, "")
			stands(t, x, "g", 0, "")
		}
	}
}

// Promises 30.1 to 30.4: of nil, whatever is asked.
func TestNil(t *testing.T) {
	var x *groups.Table
	named(t, x, "")
	for _, group := range []string{"g", "G", ""} {
		for _, name := range []string{"m", "M"} {
			noJoin(t, x, group, of("a", 2), name, 0, api.ErrState)
			noJoin(t, x, group, api.Spec{}, name, -1, api.ErrState)
			tells(t, "Leave", x.Leave(group, name, 0), api.ErrState)
			tells(t, "Beat", x.Beat(group, name, 1, -1), api.ErrState)
			tells(t, "Owns", x.Owns(group, name, 1, at("a", 0)), api.ErrState)
			hasNot(t, x, group, name, api.ErrState)
		}
		stands(t, x, group, 0, "")
	}
	x.Sweep(5)
	x.Drop("a")
	named(t, x, "")
}

// Rule R1: no call dies of a table that New did not make: its groups have no time to wait.
func TestUnmade(t *testing.T) {
	var x groups.Table
	noJoin(t, &x, "g", of("a", 1), "m", 0, api.ErrArg)
	tells(t, "Leave", x.Leave("g", "m", 0), api.ErrNone)
	x.Sweep(5)
	x.Drop("a")
	named(t, &x, "")
}

// wrongs are names that may not be.
func wrongs() []string {
	return []string{"", "G", "a b", "a_", "abcdefghijklm", "a\xff", "ä"}
}

// wrongSpecs are topics that may not be.
func wrongSpecs() []api.Spec {
	l := []api.Spec{{}, of("a", 0), of("a", 5), of("a", -1), {Name: "a", Parts: 1, Age: -1}, {Name: "a", Parts: 1, Size: -1}, {Name: "a", Parts: 1, Age: math.MaxInt}, {Name: "a", Parts: 1, Size: math.MaxInt}}
	for _, name := range wrongs() {
		l = append(l, of(name, 1))
	}
	return l
}

// Promise 30.2: groups' names and topics that may not be, ahead of whatever else is wrong.
func TestJoinWrongs(t *testing.T) {
	x := made(t, 2)
	for _, full := range []bool{false, true} {
		for _, name := range []string{"m", "M"} {
			for _, slot := range []int{3, -1} {
				for _, group := range wrongs() {
					noJoin(t, x, group, of("a", 1), name, slot, api.ErrArg)
					noJoin(t, x, group, of("b", 1), name, slot, api.ErrArg)
				}
				for _, spec := range wrongSpecs() {
					noJoin(t, x, "g0", spec, name, slot, api.ErrArg)
					noJoin(t, x, "new", spec, name, slot, api.ErrArg)
				}
			}
		}
		if !full {
			named(t, x, "")
			fill(t, x, 3)
		}
	}
	named(t, x, eight)
	stands(t, x, "g0", 1, "m")
}

const eight = "g0 g1 g2 g3 g4 g5 g6 g7"

// fill makes as many groups as may be, of one partition of a.
func fill(t *testing.T, x *groups.Table, slot int) {
	t.Helper()
	for _, group := range strings.Fields(eight) {
		joins(t, x, group, of("a", 1), slot, "m")
	}
}

// Promise 30.2: a group has one topic, by its name and its number of partitions; nothing else of it counts.
func TestJoinSame(t *testing.T) {
	x := made(t, 2)
	joins(t, x, "g", of("a", 2), 3, "m")
	for _, name := range []string{"m", "n", "M"} {
		for _, slot := range []int{3, 4, 100, 2, -1, mostSlot + 1} { // at 100 m would be out, but it is not asked
			noJoin(t, x, "g", of("b", 2), name, slot, api.ErrSame)
			noJoin(t, x, "g", of("a", 1), name, slot, api.ErrSame)
			noJoin(t, x, "g", of("a", 3), name, slot, api.ErrSame)
			noJoin(t, x, "g", of("b", 3), name, slot, api.ErrSame)
		}
	}
	stands(t, x, "g", 1, "m")
	joins(t, x, "g", api.Spec{Name: "a", Parts: 2, Age: 5, Size: 7, Compact: true}, 3, "n")
	joins(t, x, "g", of("a", 2), 3, "m")
	stands(t, x, "g", 2, "m n")
	has(t, x, "g", "n", "a", 1)
}

// Promise 30.2: there are at most eight groups; one that is there needs no room, one that is gone has none.
func TestJoinFull(t *testing.T) {
	x := made(t, 2)
	fill(t, x, 3)
	for _, name := range []string{"m", "M"} {
		for _, slot := range []int{3, 100, -1} {
			noJoin(t, x, "g8", of("a", 1), name, slot, api.ErrFull)
		}
	}
	joins(t, x, "g7", of("a", 1), 4, "n")
	noJoin(t, x, "g7", of("b", 1), "n", 4, api.ErrSame)
	named(t, x, eight)
	tells(t, "Leave", x.Leave("g3", "m", 4), api.OK)
	joins(t, x, "g8", of("b", 2), 4, "m")
	named(t, x, "g0 g1 g2 g4 g5 g6 g7 g8")
	noJoin(t, x, "g3", of("a", 1), "m", 4, api.ErrFull)
}

// Promise 30.2: what 29 refuses makes no group, and takes no room.
func TestJoinRefused(t *testing.T) {
	x := made(t, 2)
	for _, group := range strings.Fields(eight + " g8 g9") {
		for _, name := range wrongs() {
			noJoin(t, x, group, of("a", 1), name, 3, api.ErrArg)
		}
		for _, slot := range []int{-1, math.MinInt, mostSlot + 1, math.MaxInt} {
			noJoin(t, x, group, of("a", 1), "m", slot, api.ErrArg)
		}
		tells(t, "Leave", x.Leave(group, "m", 3), api.ErrNone)
	}
	named(t, x, "")
	fill(t, x, 0)
	joins(t, x, "g0", of("a", 1), 0, "a", "b", "c", "d", "e", "f", "g")
	noJoin(t, x, "g0", of("a", 1), "h", 0, api.ErrFull)
	noJoin(t, x, "g0", of("a", 1), "M", 0, api.ErrArg)
	stands(t, x, "g0", 8, "a b c d e f g m")
	joins(t, x, "g0", of("a", 1), 3, "h") // all the others are out
	stands(t, x, "g0", 10, "h")
	noJoin(t, x, "g0", of("a", 1), "h", 2, api.ErrArg)
	stands(t, x, "g0", 10, "h")
}

// Promise 30.2: what Leave and Beat tell of a group that is not there, and of one that is.
func TestLeaveAndBeat(t *testing.T) {
	x := made(t, 2)
	joins(t, x, "g", of("a", 2), 3, "m", "n")
	for _, group := range append(wrongs(), "h", "g0", "a", "m") {
		for _, slot := range []int{3, -1} {
			tells(t, "Leave", x.Leave(group, "m", slot), api.ErrNone)
			tells(t, "Leave", x.Leave(group, "M", slot), api.ErrNone)
			tells(t, "Beat", x.Beat(group, "m", 2, slot), api.ErrNone)
			tells(t, "Beat", x.Beat(group, "M", 2, slot), api.ErrNone)
		}
		stands(t, x, group, 0, "")
	}
	tells(t, "Leave", x.Leave("g", "M", 3), api.ErrArg)
	tells(t, "Leave", x.Leave("g", "m", 2), api.ErrArg)
	tells(t, "Leave", x.Leave("g", "o", 3), api.ErrMember)
	tells(t, "Beat", x.Beat("g", "M", 2, 3), api.ErrArg)
	tells(t, "Beat", x.Beat("g", "m", 2, 2), api.ErrArg)
	tells(t, "Beat", x.Beat("g", "o", 2, 3), api.ErrMember)
	tells(t, "Beat", x.Beat("g", "m", 1, 3), api.ErrEpoch)
	tells(t, "Beat", x.Beat("g", "m", 3, 3), api.ErrEpoch)
	stands(t, x, "g", 2, "m n")
	tells(t, "Beat", x.Beat("g", "m", 2, 5), api.OK)
	tells(t, "Beat", x.Beat("g", "m", 2, 6), api.ErrEpoch) // n is out
	stands(t, x, "g", 3, "m")
	joins(t, x, "g", of("a", 2), 6, "n")
	tells(t, "Leave", x.Leave("g", "m", 6), api.OK)
	stands(t, x, "g", 5, "n")
	has(t, x, "g", "n", "a", 0, 1)
}

// The table's words: a group that has no member behind a call is gone, and made anew it knows nothing of what was.
func TestGone(t *testing.T) {
	for what, call := range map[string]func(x *groups.Table) bool{
		"Leave":          func(x *groups.Table) bool { return x.Leave("g", "m", 5) == api.OK },
		"Leave, out":     func(x *groups.Table) bool { return x.Leave("g", "m", 6) == api.ErrMember },
		"Leave of none":  func(x *groups.Table) bool { return x.Leave("g", "o", 6) == api.ErrMember },
		"Beat, out":      func(x *groups.Table) bool { return x.Beat("g", "m", 1, 6) == api.ErrMember },
		"Beat of none":   func(x *groups.Table) bool { return x.Beat("g", "o", 1, 6) == api.ErrMember },
		"Sweep":          func(x *groups.Table) bool { x.Sweep(6); return true },
		"Sweep, at last": func(x *groups.Table) bool { x.Sweep(mostSlot); return true },
		"Drop":           func(x *groups.Table) bool { x.Drop("a"); return true },
	} {
		x := made(t, 2)
		joins(t, x, "g", of("a", 2), 3, "m")
		if !call(x) {
			t.Errorf("%s: it told otherwise", what)
		}
		named(t, x, "")
		stands(t, x, "g", 0, "")
		hasNot(t, x, "g", "m", api.ErrNone)
		tells(t, what, x.Owns("g", "m", 1, at("a", 0)), api.ErrNone)
		tells(t, what, x.Beat("g", "m", 1, 6), api.ErrNone)
		joins(t, x, "g", of("b", 3), 0, "n")
		stands(t, x, "g", 1, "n")
		has(t, x, "g", "n", "b", 0, 1, 2)
	}
}

// The table's words: a call that is refused lets no group go.
func TestStays(t *testing.T) {
	x := made(t, 2)
	joins(t, x, "g", of("a", 2), 3, "m")
	tells(t, "Leave", x.Leave("g", "M", 6), api.ErrArg)
	tells(t, "Leave", x.Leave("g", "m", mostSlot+1), api.ErrArg)
	tells(t, "Beat", x.Beat("g", "M", 1, 6), api.ErrArg)
	for _, slot := range []int{5, 2, -1, mostSlot + 1, math.MaxInt, math.MinInt} {
		x.Sweep(slot)
	}
	for _, topic := range []string{"b", "g", "m", "aa", "A", ""} {
		x.Drop(topic)
	}
	stands(t, x, "g", 1, "m")
	named(t, x, "g")
}

// Promise 30.3: a group's topic, and what its members have.
func TestHas(t *testing.T) {
	x := made(t, 9)
	joins(t, x, "g", of("a", 3), 0, "n", "m", "o", "p")
	joins(t, x, "h", of("b", 4), 0, "m")
	has(t, x, "g", "m", "a", 0)
	has(t, x, "g", "n", "a", 1)
	has(t, x, "g", "o", "a", 2)
	has(t, x, "g", "p", "a")
	has(t, x, "h", "m", "b", 0, 1, 2, 3)
	for _, name := range append(wrongs(), "q", "g") {
		hasNot(t, x, "g", name, api.ErrMember)
	}
	hasNot(t, x, "h", "n", api.ErrMember)
	for _, group := range append(wrongs(), "i", "a") {
		hasNot(t, x, group, "m", api.ErrNone)
		hasNot(t, x, group, "M", api.ErrNone)
	}
}

// Promise 30.3: who owns a partition: a member that has it, with the generation.
func TestOwns(t *testing.T) {
	x := made(t, 9)
	joins(t, x, "g", of("a", 3), 0, "m", "n")
	joins(t, x, "h", of("b", 3), 0, "m")
	for _, c := range []struct {
		group, name string
		gen         int
		place       api.Place
		want        api.Errno
	}{
		{"g", "m", 2, at("a", 0), api.OK}, {"g", "m", 2, at("a", 1), api.OK}, {"g", "n", 2, at("a", 2), api.OK}, {"h", "m", 1, at("b", 2), api.OK},
		{"g", "m", 2, at("a", 2), api.ErrNone}, {"g", "n", 2, at("a", 0), api.ErrNone}, {"g", "n", 2, at("a", 3), api.ErrNone}, {"g", "m", 2, at("a", -1), api.ErrNone}, {"g", "m", 2, at("a", math.MaxInt), api.ErrNone},
		{"g", "m", 2, at("b", 0), api.ErrNone}, {"g", "m", 2, at("", 0), api.ErrNone}, {"g", "m", 2, at("A", 0), api.ErrNone}, {"h", "m", 1, at("a", 0), api.ErrNone},
		{"g", "m", 1, at("a", 0), api.ErrEpoch}, {"g", "m", 3, at("a", 0), api.ErrEpoch}, {"g", "m", 0, at("b", 9), api.ErrEpoch}, {"g", "m", -1, at("a", 0), api.ErrEpoch}, {"h", "m", 2, at("b", 0), api.ErrEpoch},
		{"g", "o", 2, at("a", 0), api.ErrMember}, {"g", "M", 1, at("b", 9), api.ErrMember}, {"h", "n", 2, at("b", 0), api.ErrMember},
		{"i", "m", 2, at("a", 0), api.ErrNone}, {"", "M", 1, at("b", 9), api.ErrNone}, {"i", "o", 0, at("a", 0), api.ErrNone},
	} {
		if e := x.Owns(c.group, c.name, c.gen, c.place); e != c.want {
			t.Errorf("Owns(%q, %q, %d, %v): %v, not %v", c.group, c.name, c.gen, c.place, e, c.want)
		}
	}
}

// Promise 30.4: who is out goes from all groups; a slot that one of them may not have does nothing there, and what is done in the others.
func TestSweep(t *testing.T) {
	x := made(t, 2)
	joins(t, x, "g", of("a", 2), 3, "m")
	joins(t, x, "g", of("a", 2), 4, "n")
	joins(t, x, "h", of("b", 1), 3, "m", "n", "o")
	joins(t, x, "i", of("b", 1), 9, "m")
	joins(t, x, "j", of("b", 1), 4, "m")
	x.Sweep(6)
	named(t, x, "g i j")
	stands(t, x, "g", 3, "n")
	stands(t, x, "i", 1, "m")
	stands(t, x, "j", 1, "m")
	tells(t, "Beat", x.Beat("j", "m", 1, 5), api.ErrArg) // 6 is ahead
	tells(t, "Beat", x.Beat("i", "m", 1, 8), api.ErrArg)
	tells(t, "Beat", x.Beat("i", "m", 1, 9), api.OK)
	x.Sweep(mostSlot + 1)
	x.Sweep(-1)
	named(t, x, "g i j")
	x.Sweep(12)
	named(t, x, "")
}

// Promise 30.4: the groups of a topic go, by its name; those of another one stay.
func TestDrop(t *testing.T) {
	x := made(t, 2)
	joins(t, x, "g", of("a", 2), 3, "m", "n")
	joins(t, x, "a", of("b", 2), 3, "m")
	joins(t, x, "h", of("a", 3), 3, "m")
	joins(t, x, "i", of("aa", 2), 3, "m")
	x.Drop("a")
	named(t, x, "a i")
	stands(t, x, "a", 1, "m")
	stands(t, x, "g", 0, "")
	x.Drop("aa")
	x.Drop("aa")
	named(t, x, "a")
}

// Promise 30.1: groups and members are told rising.
func TestRising(t *testing.T) {
	x := made(t, 2)
	for _, group := range []string{"b", "a0", "abcdefghijkl", "a", "-", "0", "a-b"} {
		joins(t, x, group, of("a", 1), 0, "z", "y", "-", "y0")
		stands(t, x, group, 4, "- y y0 z")
	}
	named(t, x, "- 0 a a-b a0 abcdefghijkl b")
}

// Rule R3: what is told shares no memory with what is kept.
func TestOwnMemory(t *testing.T) {
	x := made(t, 2)
	joins(t, x, "g", of("a", 4), 0, "m", "n")
	clear(x.Names())
	clear(x.Members("g"))
	_, l, _ := x.Has("g", "n")
	clear(l)
	named(t, x, "g")
	stands(t, x, "g", 2, "m n")
	has(t, x, "g", "n", "a", 2, 3)
	tells(t, "Owns", x.Owns("g", "n", 2, at("a", 3)), api.OK)
}
