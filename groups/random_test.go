package groups_test

import (
	"maps"
	"math/rand"
	"slices"
	"testing"

	"weighlock/api"
	"weighlock/groups"
	"weighlock/member"
)

// lone is a group that stands alone: it hears of nothing but what is done in itself.
type lone struct {
	spec    api.Spec
	members *member.Group
}

// model is a table, by the words of the chapter.
type model struct {
	wait  int
	lones map[string]lone
}

// isName tells whether a group, or a topic, may have a name, of those that are played with.
func isName(s string) bool { return s != "" && s != "A" }

// end lets those groups go that have no member.
func (m *model) end() {
	maps.DeleteFunc(m.lones, func(_ string, x lone) bool { return len(x.members.Members()) == 0 })
}

// join is what Join tells.
func (m *model) join(group string, spec api.Spec, name string, slot int) (int, api.Errno) {
	defer m.end()
	x, there := m.lones[group]
	switch {
	case !isName(group) || !isName(spec.Name) || spec.Parts == 0:
		return 0, api.ErrArg
	case there && (x.spec.Name != spec.Name || x.spec.Parts != spec.Parts):
		return 0, api.ErrSame
	case !there && len(m.lones) == 8:
		return 0, api.ErrFull
	case !there:
		members, _ := member.New(spec.Parts, m.wait)
		m.lones[group] = lone{spec, members}
	}
	return m.lones[group].members.Join(name, slot)
}

// leave is what Leave tells.
func (m *model) leave(group, name string, slot int) api.Errno {
	defer m.end()
	if x, there := m.lones[group]; there {
		return x.members.Leave(name, slot)
	}
	return api.ErrNone
}

// beat is what Beat tells.
func (m *model) beat(group, name string, gen, slot int) api.Errno {
	defer m.end()
	if x, there := m.lones[group]; there {
		return x.members.Beat(name, gen, slot)
	}
	return api.ErrNone
}

// owns is what Owns tells.
func (m *model) owns(group, name string, gen int, p api.Place) api.Errno {
	x, there := m.lones[group]
	if !there {
		return api.ErrNone
	}
	own, e := x.members.Has(name)
	if e != api.OK {
		return e
	}
	if gen != x.members.Gen() {
		return api.ErrEpoch
	}
	for _, part := range own {
		if p == (api.Place{Topic: x.spec.Name, Part: part}) {
			return api.OK
		}
	}
	return api.ErrNone
}

// What is played with: more groups than may be, and wrong names.
func groupNames() []string {
	return []string{"g", "h", "i", "j", "k", "l", "m", "n", "o", "p", "abcdefghijkl", "A", ""}
}
func memberNames() []string { return []string{"a", "b", "c", "d", "g", "A"} }
func topicNames() []string  { return []string{"s", "t", "g", "A"} }

// one is one of some texts.
func one(r *rand.Rand, l []string) string { return l[r.Intn(len(l))] }

// step is a call of a table and its model at random, at a slot or (which may not be) another one.
func step(t *testing.T, r *rand.Rand, x *groups.Table, m *model, slot int) {
	t.Helper()
	group, name, topic := one(r, groupNames()), one(r, memberNames()), one(r, topicNames())
	if r.Intn(30) == 0 {
		slot = []int{-1, slot - 1, mostSlot + 1}[r.Intn(3)]
	}
	switch r.Intn(12) {
	case 0:
		x.Sweep(slot)
		for _, l := range m.lones {
			l.members.Sweep(slot)
		}
		m.end()
	case 1:
		if r.Intn(4) > 0 {
			return
		}
		x.Drop(topic)
		maps.DeleteFunc(m.lones, func(_ string, l lone) bool { return l.spec.Name == topic })
	case 2, 3:
		if e, want := x.Leave(group, name, slot), m.leave(group, name, slot); e != want {
			t.Fatalf("Leave(%q, %q, %d): %v, not %v", group, name, slot, e, want)
		}
	case 4, 5, 6:
		gen := x.Gen(group) + max(r.Intn(6)-4, 0)
		if e, want := x.Beat(group, name, gen, slot), m.beat(group, name, gen, slot); e != want {
			t.Fatalf("Beat(%q, %q, %d, %d): %v, not %v", group, name, gen, slot, e, want)
		}
	default:
		spec := api.Spec{Name: topic, Parts: r.Intn(5), Compact: r.Intn(2) == 0}
		if l, there := m.lones[group]; there && r.Intn(4) > 0 {
			spec.Name, spec.Parts = l.spec.Name, l.spec.Parts
		}
		gen, e := x.Join(group, spec, name, slot)
		if n, want := m.join(group, spec, name, slot); gen != n || e != want {
			t.Fatalf("Join(%q, %v, %q, %d): %d, %v, not %d, %v", group, spec, name, slot, gen, e, n, want)
		}
	}
}

// same asks a table for all that the model has.
func same(t *testing.T, x *groups.Table, m *model) {
	t.Helper()
	if got, want := x.Names(), slices.Sorted(maps.Keys(m.lones)); !slices.Equal(got, want) {
		t.Fatalf("Names: %q, not %q", got, want)
	}
	for _, group := range groupNames() {
		l, there := m.lones[group] // its members are nil, if it is not
		if got := x.Members(group); !slices.Equal(got, l.members.Members()) || x.Gen(group) != l.members.Gen() {
			t.Fatalf("%q: %q, %d, not %q, %d", group, got, x.Gen(group), l.members.Members(), l.members.Gen())
		}
		for _, name := range memberNames() {
			parts, want := l.members.Has(name)
			if !there {
				want = api.ErrNone
			}
			topic := l.spec.Name
			if want != api.OK {
				topic = ""
			}
			if of, own, e := x.Has(group, name); of != topic || !slices.Equal(own, parts) || e != want {
				t.Fatalf("Has(%q, %q): %q, %v, %v, not %q, %v, %v", group, name, of, own, e, topic, parts, want)
			}
		}
	}
}

// owned asks who owns what of a group's topic, of its own generation and of the one ahead: no two own the same partition, and as long as there is a member each has an owner.
func owned(t *testing.T, x *groups.Table, m *model, group string) {
	t.Helper()
	gen := x.Gen(group)
	for _, topic := range topicNames() {
		for part := -1; part < 5; part++ {
			owners, p := 0, api.Place{Topic: topic, Part: part}
			for _, name := range memberNames() {
				for by := gen - 1; by <= gen; by++ {
					e, want := x.Owns(group, name, by, p), m.owns(group, name, by, p)
					if e != want {
						t.Fatalf("Owns(%q, %q, %d, %v): %v, not %v", group, name, by, p, e, want)
					}
					if e == api.OK {
						owners++
					}
				}
			}
			spec := m.lones[group].spec
			if want := p.Topic == spec.Name && part >= 0 && part < spec.Parts; owners != 0 && !want || owners != 1 && want {
				t.Fatalf("%q: %v has %d owners", group, p, owners)
			}
		}
	}
}

// Promises 30.1 to 30.6: played at random, a table's groups do what groups do that stand alone.
func TestRandom(t *testing.T) {
	r := rand.New(rand.NewSource(1))
	for range 60 {
		wait := 1 + r.Intn(8)
		x, m := made(t, wait), &model{wait, map[string]lone{}}
		slot := 0
		for range 200 {
			slot += max(r.Intn(8)-6, 0)
			step(t, r, x, m, slot)
			same(t, x, m)
			owned(t, x, m, one(r, groupNames()))
		}
	}
}
