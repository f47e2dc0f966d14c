package member_test

import (
	"math"
	"slices"
	"strings"
	"testing"

	"weighlock/api"
	"weighlock/member"
)

const (
	mostWait = 1 << 20
	mostSlot = 1 << 40
)

// made is a group that may be.
func made(t *testing.T, parts, wait int) *member.Group {
	t.Helper()
	g, e := member.New(parts, wait)
	if g == nil || e != api.OK {
		t.Fatalf("New(%d, %d): %v", parts, wait, e)
	}
	return g
}

// joins lets members join at a slot.
func joins(t *testing.T, g *member.Group, slot int, names ...string) {
	t.Helper()
	for _, name := range names {
		if gen, e := g.Join(name, slot); gen != g.Gen() || e != api.OK {
			t.Fatalf("Join(%q, %d): %d, %v", name, slot, gen, e)
		}
	}
}

// stands asks for a group's generation and members.
func stands(t *testing.T, what string, g *member.Group, gen int, members string) {
	t.Helper()
	if got := strings.Join(g.Members(), " "); g.Gen() != gen || got != members {
		t.Errorf("%s: generation %d of %q, not %d of %q", what, g.Gen(), got, gen, members)
	}
}

// The example of the chapter.
func TestExample(t *testing.T) {
	g := made(t, 4, 2)
	if n, e := g.Join("a", 0); n != 1 || e != api.OK {
		t.Errorf("Join: %d, %v", n, e)
	}
	if n, e := g.Join("b", 1); n != 2 || e != api.OK {
		t.Errorf("Join: %d, %v", n, e)
	}
	if e := g.Beat("b", 2, 3); e != api.ErrEpoch {
		t.Errorf("Beat: %v", e)
	}
	stands(t, "out", g, 3, "b")
}

// Promise 29.1: how many partitions, and what times to wait, may be.
func TestNew(t *testing.T) {
	for _, c := range []struct {
		parts, wait int
		want        api.Errno
	}{
		{0, 1, api.OK}, {1, 2, api.OK}, {4, mostWait, api.OK}, {0, mostWait, api.OK},
		{-1, 1, api.ErrArg}, {5, 1, api.ErrArg}, {math.MinInt, 1, api.ErrArg}, {math.MaxInt, 1, api.ErrArg},
		{0, 0, api.ErrArg}, {4, -1, api.ErrArg}, {4, mostWait + 1, api.ErrArg}, {1, math.MinInt, api.ErrArg}, {1, math.MaxInt, api.ErrArg}, {-1, 0, api.ErrArg},
	} {
		g, e := member.New(c.parts, c.wait)
		if e != c.want || (g != nil) != (e == api.OK) {
			t.Errorf("New(%d, %d): %v, %v", c.parts, c.wait, g, e)
		}
		if e != api.OK {
			continue
		}
		stands(t, "new", g, 0, "")
		if g.Parts() != c.parts {
			t.Errorf("New(%d, %d): %d partitions", c.parts, c.wait, g.Parts())
		}
		if l, e := g.Has("a"); len(l) != 0 || e != api.ErrMember {
			t.Errorf("Has: %v, %v", l, e)
		}
	}
}

// Promises 29.1 and 29.2: of nil, whatever is asked.
func TestNil(t *testing.T) {
	var g *member.Group
	stands(t, "nil", g, 0, "")
	if g.Parts() != 0 {
		t.Errorf("Parts: %d", g.Parts())
	}
	for _, name := range []string{"a", "A", ""} {
		for _, slot := range []int{0, 5, -1, mostSlot + 1} {
			if gen, e := g.Join(name, slot); gen != 0 || e != api.ErrState {
				t.Errorf("Join(%q, %d): %d, %v", name, slot, gen, e)
			}
			if e := g.Leave(name, slot); e != api.ErrState {
				t.Errorf("Leave(%q, %d): %v", name, slot, e)
			}
			if e := g.Beat(name, 0, slot); e != api.ErrState {
				t.Errorf("Beat(%q, %d): %v", name, slot, e)
			}
			if n := g.Sweep(slot); n != 0 {
				t.Errorf("Sweep(%d): %d", slot, n)
			}
		}
		if l, e := g.Has(name); len(l) != 0 || e != api.ErrState {
			t.Errorf("Has(%q): %v, %v", name, l, e)
		}
	}
}

// Rule R1: no call dies of a group that New did not make.
func TestUnmade(t *testing.T) {
	var g member.Group
	if n := g.Sweep(3); n != 0 {
		t.Errorf("Sweep: %d", n)
	}
	joins(t, &g, 3, "a")
	stands(t, "unmade", &g, 1, "a")
	if l, e := g.Has("a"); len(l) != 0 || e != api.OK {
		t.Errorf("Has: %v, %v", l, e)
	}
}

// wrongs are names that may not be.
func wrongs() []string {
	return []string{"", "A", "a b", "a_", "abcdefghijklm", "a\xff", "ä", "a\x00"}
}

// refuses asks the calls with a name and a slot for ErrArg, and that they change nothing that can be told.
func refuses(t *testing.T, g *member.Group, name string, slot int) {
	t.Helper()
	gen, members := g.Gen(), strings.Join(g.Members(), " ")
	if n, e := g.Join(name, slot); n != 0 || e != api.ErrArg {
		t.Errorf("Join(%q, %d): %d, %v", name, slot, n, e)
	}
	if e := g.Leave(name, slot); e != api.ErrArg {
		t.Errorf("Leave(%q, %d): %v", name, slot, e)
	}
	if e := g.Beat(name, gen, slot); e != api.ErrArg {
		t.Errorf("Beat(%q, %d): %v", name, slot, e)
	}
	stands(t, "refused", g, gen, members)
}

// Promise 29.2: names and slots that may not be; who is out stays, and no slot counts as the one of a call ahead.
func TestWrongs(t *testing.T) {
	g := made(t, 4, 2)
	joins(t, g, 5, "a", "b")
	for _, name := range wrongs() {
		for _, slot := range []int{5, 6, 8, 100, mostSlot, 4, -1, mostSlot + 1} {
			refuses(t, g, name, slot)
		}
	}
	for _, slot := range []int{4, 0, -1, math.MinInt, mostSlot + 1, math.MaxInt} {
		for _, name := range []string{"a", "b", "c"} {
			refuses(t, g, name, slot)
		}
		if n := g.Sweep(slot); n != 0 {
			t.Errorf("Sweep(%d): %d", slot, n)
		}
	}
	stands(t, "wrongs", g, 2, "a b")
	if e := g.Beat("a", 2, 5); e != api.OK {
		t.Errorf("Beat: %v", e)
	}
	if e := g.Leave("A", 8); e != api.ErrArg { // they are out, but that is not asked
		t.Errorf("Leave: %v", e)
	}
	joins(t, g, 7, "b")
	stands(t, "wrongs", g, 2, "a b")
}

// Promise 29.2: names of one and of twelve letters, and the least and the greatest slot, may be.
func TestEdges(t *testing.T) {
	g := made(t, 4, mostWait)
	joins(t, g, 0, "a", "abcdefghijkl", "0-9")
	stands(t, "first", g, 3, "0-9 a abcdefghijkl")
	if n := g.Sweep(mostWait); n != 0 {
		t.Errorf("Sweep: %d", n)
	}
	joins(t, g, mostWait, "z")
	if n := g.Sweep(mostWait + 1); n != 3 {
		t.Errorf("Sweep: %d", n)
	}
	stands(t, "swept", g, 5, "z")
	joins(t, g, mostSlot, "a")
	stands(t, "last", g, 7, "a")
	if e := g.Beat("a", 7, mostSlot); e != api.OK {
		t.Errorf("Beat: %v", e)
	}
	refuses(t, g, "a", mostSlot+1)
	refuses(t, g, "a", mostSlot-1)
}

// Promise 29.2: a call's slot counts as the one of a call ahead, whatever it told but ErrArg.
func TestSlotsDoNotFall(t *testing.T) {
	for what, call := range map[string]func(g *member.Group) bool{
		"Join":           func(g *member.Group) bool { _, e := g.Join("a", 9); return e == api.OK },
		"Join of more":   func(g *member.Group) bool { _, e := g.Join("i", 9); return e == api.ErrFull },
		"Leave":          func(g *member.Group) bool { return g.Leave("a", 9) == api.OK },
		"Leave of none":  func(g *member.Group) bool { return g.Leave("x", 9) == api.ErrMember },
		"Beat":           func(g *member.Group) bool { return g.Beat("a", 8, 9) == api.OK },
		"Beat of none":   func(g *member.Group) bool { return g.Beat("x", 8, 9) == api.ErrMember },
		"Beat of before": func(g *member.Group) bool { return g.Beat("a", 7, 9) == api.ErrEpoch },
		"Sweep":          func(g *member.Group) bool { return g.Sweep(9) == 0 },
	} {
		g := made(t, 4, 100)
		joins(t, g, 3, "a", "b", "c", "d", "e", "f", "g", "h")
		if !call(g) {
			t.Errorf("%s: it told otherwise", what)
		}
		refuses(t, g, "b", 8)
		if e := g.Beat("b", g.Gen(), 9); e != api.OK {
			t.Errorf("%s: Beat: %v", what, e)
		}
	}
}

// Promise 29.2: who was heard just the time to wait ago is no more out than who was heard now; one slot later each is.
func TestOut(t *testing.T) {
	for _, wait := range []int{1, 2, 7, mostWait} {
		for _, slot := range []int{0, 1, 50, mostSlot - mostWait - 1} {
			g := made(t, 4, wait)
			joins(t, g, slot, "a", "b", "c")
			if n := g.Sweep(slot + wait); n != 0 {
				t.Errorf("wait %d: Sweep(%d): %d", wait, slot+wait, n)
			}
			joins(t, g, slot+wait, "b")
			stands(t, "waits", g, 3, "a b c")
			if n := g.Sweep(slot + wait + 1); n != 2 {
				t.Errorf("wait %d: Sweep(%d): %d", wait, slot+wait+1, n)
			}
			stands(t, "out", g, 4, "b")
		}
	}
}

// out is a group of a, heard at 0, and of b, c, heard at 2, whose time to wait is 2: at 3 and at 4 a alone is out, at 5 all are.
func out(t *testing.T) *member.Group {
	t.Helper()
	g := made(t, 3, 2)
	joins(t, g, 0, "a")
	joins(t, g, 2, "b", "c")
	return g
}

// Promise 29.2: behind each call that is not refused for its arguments those who are out are gone ahead of all else, with one generation for all of them.
func TestGoneAhead(t *testing.T) {
	for what, c := range map[string]struct {
		call    func(g *member.Group) (int, api.Errno)
		told    int
		want    api.Errno
		gen     int
		members string
	}{
		"Join of a member":     {func(g *member.Group) (int, api.Errno) { return g.Join("b", 3) }, 4, api.OK, 4, "b c"},
		"Join of another":      {func(g *member.Group) (int, api.Errno) { return g.Join("d", 3) }, 5, api.OK, 5, "b c d"},
		"Join of who is out":   {func(g *member.Group) (int, api.Errno) { return g.Join("a", 3) }, 5, api.OK, 5, "a b c"},
		"Join, all out":        {func(g *member.Group) (int, api.Errno) { return g.Join("c", 5) }, 5, api.OK, 5, "c"},
		"Leave":                {func(g *member.Group) (int, api.Errno) { return 0, g.Leave("b", 3) }, 0, api.OK, 5, "c"},
		"Leave of who is out":  {func(g *member.Group) (int, api.Errno) { return 0, g.Leave("a", 3) }, 0, api.ErrMember, 4, "b c"},
		"Leave, all out":       {func(g *member.Group) (int, api.Errno) { return 0, g.Leave("b", 5) }, 0, api.ErrMember, 4, ""},
		"Beat":                 {func(g *member.Group) (int, api.Errno) { return 0, g.Beat("b", 4, 3) }, 0, api.OK, 4, "b c"},
		"Beat of before":       {func(g *member.Group) (int, api.Errno) { return 0, g.Beat("b", 3, 3) }, 0, api.ErrEpoch, 4, "b c"},
		"Beat of who is out":   {func(g *member.Group) (int, api.Errno) { return 0, g.Beat("a", 4, 3) }, 0, api.ErrMember, 4, "b c"},
		"Beat, all out":        {func(g *member.Group) (int, api.Errno) { return 0, g.Beat("b", 3, 5) }, 0, api.ErrMember, 4, ""},
		"Sweep":                {func(g *member.Group) (int, api.Errno) { return g.Sweep(4), 0 }, 1, api.OK, 4, "b c"},
		"Sweep, all out":       {func(g *member.Group) (int, api.Errno) { return g.Sweep(5), 0 }, 3, api.OK, 4, ""},
		"Sweep, none out":      {func(g *member.Group) (int, api.Errno) { return g.Sweep(2), 0 }, 0, api.OK, 3, "a b c"},
		"Sweep, long ago":      {func(g *member.Group) (int, api.Errno) { return g.Sweep(mostSlot), 0 }, 3, api.OK, 4, ""},
		"a slot beyond all":    {func(g *member.Group) (int, api.Errno) { return g.Sweep(mostSlot + 1), 0 }, 0, api.OK, 3, "a b c"},
		"Join by a wrong name": {func(g *member.Group) (int, api.Errno) { return g.Join("B", 5) }, 0, api.ErrArg, 3, "a b c"},
	} {
		g := out(t)
		if told, e := c.call(g); told != c.told || e != c.want {
			t.Errorf("%s: %d, %v, not %d, %v", what, told, e, c.told, c.want)
		}
		stands(t, what, g, c.gen, c.members)
	}
}

// Promise 29.2: there are at most eight members; who is out has no room, and who is a member needs none.
func TestFull(t *testing.T) {
	g := made(t, 4, 3)
	joins(t, g, 0, "h")
	joins(t, g, 1, "a", "b", "c", "d", "e", "f", "g")
	for _, slot := range []int{1, 3} {
		if n, e := g.Join("i", slot); n != 0 || e != api.ErrFull {
			t.Errorf("Join at %d: %d, %v", slot, n, e)
		}
		joins(t, g, slot, "a", "b")
	}
	stands(t, "full", g, 8, "a b c d e f g h")
	joins(t, g, 4, "i") // h was out
	stands(t, "room", g, 10, "a b c d e f g i")
	if e := g.Leave("b", 4); e != api.OK {
		t.Errorf("Leave: %v", e)
	}
	joins(t, g, 4, "h")
	stands(t, "room again", g, 12, "a c d e f g h i")
	if n, e := g.Join("b", 4); n != 0 || e != api.ErrFull {
		t.Errorf("Join: %d, %v", n, e)
	}
}

// Promise 29.2: a member is heard when it joins, joins again or beats, and not when that is refused.
func TestHeard(t *testing.T) {
	for what, c := range map[string]struct {
		call func(g *member.Group) api.Errno
		want api.Errno
		gone int
	}{
		"Join again":        {func(g *member.Group) api.Errno { _, e := g.Join("a", 3); return e }, api.OK, 1},
		"Beat":              {func(g *member.Group) api.Errno { return g.Beat("a", 2, 3) }, api.OK, 1},
		"Beat of before":    {func(g *member.Group) api.Errno { return g.Beat("a", 1, 3) }, api.ErrEpoch, 2},
		"Beat of none yet":  {func(g *member.Group) api.Errno { return g.Beat("a", 3, 3) }, api.ErrEpoch, 2},
		"Beat of least":     {func(g *member.Group) api.Errno { return g.Beat("a", math.MinInt, 3) }, api.ErrEpoch, 2},
		"Beat of greatest":  {func(g *member.Group) api.Errno { return g.Beat("a", math.MaxInt, 3) }, api.ErrEpoch, 2},
		"Beat of a wrong":   {func(g *member.Group) api.Errno { return g.Beat("A", 2, 3) }, api.ErrArg, 2},
		"Beat of none":      {func(g *member.Group) api.Errno { return g.Beat("c", 1, 3) }, api.ErrMember, 2},
		"Beat too early":    {func(g *member.Group) api.Errno { return g.Beat("a", 2, 1) }, api.ErrArg, 2},
		"Leave by another":  {func(g *member.Group) api.Errno { return g.Leave("c", 3) }, api.ErrMember, 2},
		"Join of a wrong":   {func(g *member.Group) api.Errno { _, e := g.Join("A", 3); return e }, api.ErrArg, 2},
		"nothing but Sweep": {func(g *member.Group) api.Errno { g.Sweep(3); return api.OK }, api.OK, 2},
	} {
		g := made(t, 3, 3)
		joins(t, g, 2, "a", "b")
		if e := c.call(g); e != c.want {
			t.Errorf("%s: %v, not %v", what, e, c.want)
		}
		if n := g.Sweep(6); n != c.gone {
			t.Errorf("%s: %d were out, not %d", what, n, c.gone)
		}
	}
}

// Promise 29.1: members are told rising, and what each has of all of them.
func TestHas(t *testing.T) {
	g := made(t, 3, 9)
	joins(t, g, 0, "b", "a0", "a", "a-b", "-")
	stands(t, "rising", g, 5, "- a a-b a0 b")
	for name, want := range map[string][]int{"-": {0}, "a": {1}, "a-b": {2}, "a0": nil, "b": nil} {
		if l, e := g.Has(name); !slices.Equal(l, want) || e != api.OK {
			t.Errorf("Has(%q): %v, %v", name, l, e)
		}
	}
	for _, name := range append(wrongs(), "c", "a-", "b0") {
		if l, e := g.Has(name); len(l) != 0 || e != api.ErrMember {
			t.Errorf("Has(%q): %v, %v", name, l, e)
		}
	}
	for _, name := range []string{"-", "a-b", "b"} {
		if e := g.Leave(name, 0); e != api.OK {
			t.Errorf("Leave(%q): %v", name, e)
		}
	}
	if l, e := g.Has("a"); !slices.Equal(l, []int{0, 1}) || e != api.OK {
		t.Errorf("Has: %v, %v", l, e)
	}
	if l, e := g.Has("b"); len(l) != 0 || e != api.ErrMember {
		t.Errorf("Has: %v, %v", l, e)
	}
}

// Rule R3: what is told shares no memory with what is kept.
func TestOwnMemory(t *testing.T) {
	g := made(t, 4, 9)
	joins(t, g, 0, "a", "b")
	clear(g.Members())
	l, _ := g.Has("b")
	clear(l)
	stands(t, "cleared", g, 2, "a b")
	if l, e := g.Has("b"); !slices.Equal(l, []int{2, 3}) || e != api.OK {
		t.Errorf("Has: %v, %v", l, e)
	}
}
