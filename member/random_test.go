package member_test

import (
	"cmp"
	"math/rand"
	"slices"
	"strings"
	"testing"

	"weighlock/api"
	"weighlock/member"
)

// one is a member, and the slot at which it was last heard.
type one struct {
	name string
	slot int
}

// model is a group, by the words of the chapter: its members by rising names.
type model struct {
	parts, wait, gen, last int
	members                []one
}

// isName tells whether a member may have a name.
func isName(s string) bool {
	return len(s) >= 1 && len(s) <= 12 && strings.Trim(s, "abcdefghijklmnopqrstuvwxyz0123456789-") == ""
}

// at is where a member stands, or would stand.
func (m *model) at(name string) (int, bool) {
	return slices.BinarySearchFunc(m.members, name, func(x one, name string) int { return cmp.Compare(x.name, name) })
}

// sweep lets those go who are out.
func (m *model) sweep(slot int) int {
	if slot < 0 || slot > mostSlot || slot < m.last {
		return 0
	}
	var stay []one
	for _, x := range m.members {
		if x.slot+m.wait >= slot {
			stay = append(stay, x)
		}
	}
	gone := len(m.members) - len(stay)
	m.members, m.last, m.gen = stay, slot, m.gen+min(gone, 1)
	return gone
}

// call is what a call of a name and a slot tells: of Join (one that adds), Leave (one that takes) or Beat.
func (m *model) call(kind, name string, gen, slot int) (int, api.Errno) {
	if !isName(name) || slot < 0 || slot > mostSlot || slot < m.last {
		return 0, api.ErrArg
	}
	m.sweep(slot)
	at, there := m.at(name)
	switch {
	case kind != "Join" && !there:
		return 0, api.ErrMember
	case kind == "Leave":
		m.members = slices.Delete(m.members, at, at+1)
		m.gen++
		return 0, api.OK
	case kind == "Beat" && gen != m.gen:
		return 0, api.ErrEpoch
	case kind == "Join" && !there && len(m.members) == 8:
		return 0, api.ErrFull
	case kind == "Join" && !there:
		m.members = slices.Insert(m.members, at, one{name: name})
		m.gen++
	}
	m.members[at].slot = slot
	if kind == "Join" {
		return m.gen, api.OK
	}
	return 0, api.OK
}

// has is what a member has: each partition goes to one of them, by rising names and numbers, the first ones having one more.
func (m *model) has(name string) ([]int, api.Errno) {
	var own []int
	next := 0
	for i, x := range m.members {
		many := m.parts / len(m.members)
		if i < m.parts%len(m.members) {
			many++
		}
		for range many {
			if x.name == name {
				own = append(own, next)
			}
			next++
		}
	}
	if _, there := m.at(name); !there {
		return nil, api.ErrMember
	}
	return own, api.OK
}

// names are those that are played with: more than may be members, and wrong ones.
func names() []string {
	return []string{"a", "b", "c", "d", "e", "f", "g", "h", "i", "j", "abcdefghijkl", "a-0", "abcdefghijklm", "", "A"}
}

// done is what a call of the group itself tells.
func done(g *member.Group, kind, name string, gen, slot int) (int, api.Errno) {
	switch kind {
	case "Join":
		return g.Join(name, slot)
	case "Leave":
		return 0, g.Leave(name, slot)
	}
	return 0, g.Beat(name, gen, slot)
}

// same asks the group for all that the model has.
func same(t *testing.T, g *member.Group, m *model) {
	t.Helper()
	var members []string
	for _, x := range m.members {
		members = append(members, x.name)
	}
	if got := g.Members(); !slices.Equal(got, members) || g.Gen() != m.gen || g.Parts() != m.parts {
		t.Fatalf("%q of the generation %d, %d partitions; not %q, %d, %d", got, g.Gen(), g.Parts(), members, m.gen, m.parts)
	}
	for _, name := range names() {
		want, wanted := m.has(name)
		if l, e := g.Has(name); !slices.Equal(l, want) || e != wanted {
			t.Fatalf("Has(%q): %v, %v; not %v, %v", name, l, e, want, wanted)
		}
	}
}

// nextSlot is mostly a slot that is not far behind the last one, and seldom one that may not be.
func nextSlot(r *rand.Rand, m *model) int {
	switch r.Intn(40) {
	case 0:
		return m.last - 1 - r.Intn(3)
	case 1:
		return mostSlot + 1 + r.Intn(2)
	case 2:
		return m.last + m.wait + r.Intn(3)
	}
	return m.last + max(r.Intn(6)-3, 0)
}

// nextGen is mostly the generation that there is behind those who are out.
func nextGen(r *rand.Rand, m *model, slot int) int {
	ahead := *m
	ahead.sweep(slot)
	return ahead.gen + max(r.Intn(7)-5, 0)*(2*r.Intn(2)-1)
}

// Promises 29.1 to 29.3: played at random, a group does what the model does, and each change of its members makes the generation greater.
func TestRandom(t *testing.T) {
	r := rand.New(rand.NewSource(1))
	kinds := []string{"Join", "Join", "Join", "Leave", "Beat", "Beat", "Beat", "Beat", "Sweep"}
	for range 300 {
		m := &model{parts: r.Intn(5), wait: 1 + r.Intn(9)}
		g := made(t, m.parts, m.wait)
		some := 1 + r.Intn(len(names()))
		for range 150 {
			members, gen := g.Members(), g.Gen()
			kind, name, slot := kinds[r.Intn(len(kinds))], names()[r.Intn(some)], nextSlot(r, m)
			by := nextGen(r, m, slot)
			if kind == "Sweep" {
				want := m.sweep(slot)
				if n := g.Sweep(slot); n != want {
					t.Fatalf("Sweep(%d): %d, not %d", slot, n, want)
				}
			} else {
				want, wanted := m.call(kind, name, by, slot)
				if told, e := done(g, kind, name, by, slot); told != want || e != wanted {
					t.Fatalf("%s(%q, %d, %d): %d, %v; not %d, %v", kind, name, by, slot, told, e, want, wanted)
				}
			}
			same(t, g, m)
			if g.Gen() < gen || g.Gen() == gen && !slices.Equal(g.Members(), members) {
				t.Fatalf("%q of %d, behind %q of %d", g.Members(), g.Gen(), members, gen)
			}
		}
	}
}

// Promise 29.4: who beats, or joins, at least each time-to-wait slots, with the generation, is never out, whatever the others do.
func TestKeen(t *testing.T) {
	r := rand.New(rand.NewSource(2))
	for range 100 {
		wait := 1 + r.Intn(6)
		g := made(t, 4, wait)
		joins(t, g, 0, "keen")
		for slot, heard := 1, 0; slot < 200; slot++ {
			if slot-heard == wait || r.Intn(3) == 0 {
				g.Sweep(slot) // so that the generation is known
				heard = slot
				if r.Intn(2) == 0 {
					joins(t, g, slot, "keen")
				} else if e := g.Beat("keen", g.Gen(), slot); e != api.OK {
					t.Fatalf("wait %d: Beat at %d: %v", wait, slot, e)
				}
			}
			for range r.Intn(3) {
				kind := []string{"Join", "Leave", "Beat"}[r.Intn(3)]
				done(g, kind, names()[r.Intn(len(names()))], g.Gen(), slot)
			}
			if !slices.Contains(g.Members(), "keen") {
				t.Fatalf("wait %d: it is out at %d", wait, slot)
			}
		}
	}
}
