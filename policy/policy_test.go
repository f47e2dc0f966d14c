package policy_test

import (
	"fmt"
	"math"
	"math/rand"
	"slices"
	"testing"

	"weighlock/api"
	"weighlock/lattice"
	"weighlock/policy"
)

// ordered is the lattice of labels that are told by sets, as bits: one flows to another, if its set lies within the other's.
func ordered(t *testing.T, sets ...int) *lattice.Lattice {
	t.Helper()
	table := make([][]bool, len(sets))
	for a, set := range sets {
		for _, other := range sets {
			table[a] = append(table[a], set&^other == 0)
		}
	}
	l, e := lattice.New(table)
	if e != api.OK {
		t.Fatalf("the test itself is wrong: %v, %v", table, e)
	}
	return l
}

// lattices are some of all sizes but three, also with labels in no order.
func lattices(t *testing.T) []*lattice.Lattice {
	t.Helper()
	return []*lattice.Lattice{
		ordered(t, 0),
		ordered(t, 0, 1),
		ordered(t, 1, 0),
		diamond(t),
		ordered(t, 0b111, 0b001, 0b010, 0b110, 0b000), // a pentagon
		chain(t),
		ordered(t, 0b1, 0b11111, 0b111, 0b0, 0b1111, 0b11),
	}
}

// diamond: 0 to all, 1 and 2 to 3.
func diamond(t *testing.T) *lattice.Lattice {
	t.Helper()
	return ordered(t, 0b00, 0b01, 0b10, 0b11)
}

// chain: 0 to 1 to 2 .. to 5.
func chain(t *testing.T) *lattice.Lattice {
	t.Helper()
	return ordered(t, 0b0, 0b1, 0b11, 0b111, 0b1111, 0b11111)
}

// allRules are the rules between all two labels that may have one, with budgets of their own.
func allRules(l *lattice.Lattice) []api.Rule {
	var rules []api.Rule
	for from := range l.Size() {
		for to := range l.Size() {
			if from != to && l.Flows(to, from) {
				rules = append(rules, api.Rule{From: from, To: to, Budget: len(rules) + 1})
			}
		}
	}
	return rules
}

// made is the policy of rules that are right.
func made(t *testing.T, l *lattice.Lattice, rules ...api.Rule) *policy.Policy {
	t.Helper()
	p, e := policy.New(l, rules)
	if p == nil || e != api.OK {
		t.Fatalf("New(%v): %v, %v", rules, p, e)
	}
	return p
}

// opened is a ledger of a window that may be.
func opened(t *testing.T, p *policy.Policy, window int) *policy.Ledger {
	t.Helper()
	g, e := p.Ledger(window)
	if g == nil || e != api.OK {
		t.Fatalf("Ledger(%d): %v, %v", window, g, e)
	}
	return g
}

// strangers are numbers that are neither a label nor a rule.
func strangers() []int { return []int{-1, 16, 17, 99, math.MaxInt, math.MinInt} }

// holds asks a policy for all that the chapter tells of its rules.
func holds(t *testing.T, p *policy.Policy, rules []api.Rule) {
	t.Helper()
	if p.Size() != len(rules) {
		t.Fatalf("%v: Size: %d", rules, p.Size())
	}
	labels := append([]int{0, 1, 2, 3, 4, 5, 6, 7}, strangers()...)
	for _, from := range labels {
		for _, to := range labels {
			number := slices.IndexFunc(rules, func(r api.Rule) bool { return r.From == from && r.To == to })
			want := api.OK
			if number < 0 {
				number, want = 0, api.ErrNone
			}
			if n, e := p.Find(from, to); n != number || e != want {
				t.Errorf("%v: Find(%d, %d): %d, %v", rules, from, to, n, e)
			}
		}
	}
	for n, want := range rules {
		if r, e := p.Rule(n); r != want || e != api.OK {
			t.Errorf("%v: Rule(%d): %v, %v", rules, n, r, e)
		}
	}
	for _, n := range append(strangers(), len(rules), len(rules)+1) {
		if r, e := p.Rule(n); r != (api.Rule{}) || e != api.ErrNone {
			t.Errorf("%v: Rule(%d): %v, %v", rules, n, r, e)
		}
	}
}

// Promise 5.1: policies of all rules that a lattice has room for, of none, and of some in any order.
func TestPolicies(t *testing.T) {
	r := rand.New(rand.NewSource(1))
	for _, l := range lattices(t) {
		holds(t, made(t, l), nil)
		rules := allRules(l)
		holds(t, made(t, l, rules...), rules)
		for range 20 {
			r.Shuffle(len(rules), func(i, j int) { rules[i], rules[j] = rules[j], rules[i] })
			some := rules[:r.Intn(len(rules)+1)]
			holds(t, made(t, l, some...), some)
		}
	}
	if n := len(allRules(chain(t))); n != 15 { // no lattice has room for one more
		t.Errorf("rules of a chain: %d", n)
	}
}

// Promise 5.1: each rule that may be, and each that may not, of each two numbers.
func TestEachRule(t *testing.T) {
	for _, l := range lattices(t) {
		labels := append([]int{0, 1, 2, 3, 4, 5, 6}, strangers()...)
		for _, from := range labels {
			for _, to := range labels {
				want := api.OK
				if from < 0 || from >= l.Size() || to < 0 || to >= l.Size() {
					want = api.ErrArg
				} else if from == to || !l.Flows(to, from) {
					want = api.ErrForm
				}
				p, e := policy.New(l, []api.Rule{{From: from, To: to, Budget: 1}})
				if e != want || (p == nil) != (want != api.OK) {
					t.Errorf("of %d labels: New({%d, %d, 1}): %v, not %v", l.Size(), from, to, e, want)
				}
			}
		}
	}
}

// Promise 5.1: budgets that may be, and those that may not.
func TestBudgets(t *testing.T) {
	l := diamond(t)
	for _, n := range []int{1, 2, 1<<20 - 1, 1 << 20} {
		rule := api.Rule{From: 3, To: 1, Budget: n}
		p := made(t, l, rule)
		if r, e := p.Rule(0); r != rule || e != api.OK {
			t.Errorf("Rule(0): %v, %v", r, e)
		}
	}
	for _, n := range []int{0, -1, 1<<20 + 1, math.MaxInt, math.MinInt} {
		if p, e := policy.New(l, []api.Rule{{From: 3, To: 1, Budget: n}}); p != nil || e != api.ErrArg {
			t.Errorf("New of a budget of %d: %v, %v", n, p, e)
		}
	}
}

// Promise 5.1: of several errors the first one; of several rules that are wrong the first one.
func TestWrongRules(t *testing.T) {
	l := diamond(t)
	good, other := api.Rule{From: 3, To: 0, Budget: 5}, api.Rule{From: 1, To: 0, Budget: 5}
	for i, c := range []struct {
		rules []api.Rule
		want  api.Errno
	}{
		{[]api.Rule{{From: 4, To: 0, Budget: 1}}, api.ErrArg},
		{[]api.Rule{{From: 3, To: 4, Budget: 1}}, api.ErrArg},
		{[]api.Rule{{From: 3, To: -1, Budget: 1}}, api.ErrArg},
		{[]api.Rule{{From: 4, To: 4, Budget: 1}}, api.ErrArg},  // both are the same, too
		{[]api.Rule{{From: -1, To: 7, Budget: 0}}, api.ErrArg}, // all of it is wrong
		{[]api.Rule{{From: 0, To: 3, Budget: 0}}, api.ErrArg},  // upwards, too
		{[]api.Rule{good, {From: 3, To: 0}}, api.ErrArg},       // the same as one ahead, too
		{[]api.Rule{{From: 0, To: 3, Budget: 1}}, api.ErrForm},
		{[]api.Rule{{From: 1, To: 2, Budget: 1}}, api.ErrForm}, // neither flows to the other one
		{[]api.Rule{{From: 2, To: 2, Budget: 1}}, api.ErrForm},
		{[]api.Rule{good, good}, api.ErrSame},
		{[]api.Rule{good, other, {From: 3, To: 0, Budget: 6}}, api.ErrSame}, // of another budget
		{[]api.Rule{good, other, {From: 1, To: 0, Budget: 1}, {From: 3, To: 0}}, api.ErrSame},
		{[]api.Rule{good, {From: 2, To: 2, Budget: 1}, {From: 2, To: 2, Budget: 1}}, api.ErrForm},
		{[]api.Rule{good, good, {From: 0, To: 3, Budget: 1}}, api.ErrSame},
		{[]api.Rule{good, {From: 0, To: 3, Budget: 1}, good, {From: 9}}, api.ErrForm},
		{[]api.Rule{good, {From: 9}, good, {From: 0, To: 3, Budget: 1}}, api.ErrArg},
		{slices.Repeat([]api.Rule{good}, 16), api.ErrSame}, // 16 rules are not too many
		{append([]api.Rule{{From: 2, To: 1, Budget: 1}}, make([]api.Rule, 15)...), api.ErrForm},
		{slices.Repeat([]api.Rule{good}, 17), api.ErrLong},
		{make([]api.Rule, 17), api.ErrLong}, // wrong ones, too
		{make([]api.Rule, 1000), api.ErrLong},
	} {
		if p, e := policy.New(l, c.rules); p != nil || e != c.want {
			t.Errorf("%d: %v, %v, not %v", i, p, e, c.want)
		}
	}
}

// Promise 5.1: rules that share one label are not the same.
func TestRulesThatShareLabels(t *testing.T) {
	rules := []api.Rule{{From: 3, To: 1, Budget: 4}, {From: 3, To: 2, Budget: 4}, {From: 3, To: 0, Budget: 4}, {From: 1, To: 0, Budget: 4}, {From: 2, To: 0, Budget: 4}}
	holds(t, made(t, diamond(t), rules...), rules)
}

// Promise 5.1: no lattice, ahead of all other errors; a lattice of no labels has no rules.
func TestNoLattice(t *testing.T) {
	for _, rules := range [][]api.Rule{nil, {{From: 1, To: 0, Budget: 1}}, {{}}, make([]api.Rule, 17)} {
		if p, e := policy.New(nil, rules); p != nil || e != api.ErrState {
			t.Errorf("New(nil, %d rules): %v, %v", len(rules), p, e)
		}
	}
	if p, e := policy.New(new(lattice.Lattice), []api.Rule{{Budget: 1}}); p != nil || e != api.ErrArg {
		t.Errorf("New of no labels: %v, %v", p, e)
	}
}

// Promises 5.1 and 5.2: of nil.
func TestNil(t *testing.T) {
	var p *policy.Policy
	if p.Size() != 0 {
		t.Errorf("Size: %d", p.Size())
	}
	for _, n := range []int{-1, 0, 1} {
		if x, e := p.Find(n, 0); x != 0 || e != api.ErrState {
			t.Errorf("Find(%d, 0): %d, %v", n, x, e)
		}
		if r, e := p.Rule(n); r != (api.Rule{}) || e != api.ErrState {
			t.Errorf("Rule(%d): %v, %v", n, r, e)
		}
		if g, e := p.Ledger(n); g != nil || e != api.ErrState {
			t.Errorf("Ledger(%d): %v, %v", n, g, e)
		}
	}
	var g *policy.Ledger
	for _, n := range []int{-1, 0, 1} {
		if e := g.Spend(n); e != api.ErrState || g.Left(n) != 0 {
			t.Errorf("Spend(%d): %v", n, e)
		}
		g.Tick()
	}
}

// Rule R1: no call dies, not even of what New and Ledger never gave.
func TestZeroValues(t *testing.T) {
	holds(t, new(policy.Policy), nil)
	for _, g := range []*policy.Ledger{new(policy.Ledger), opened(t, new(policy.Policy), 2)} {
		for _, n := range append(strangers(), 0) {
			if e := g.Spend(n); e != api.ErrNone || g.Left(n) != 0 {
				t.Errorf("Spend(%d): %v", n, e)
			}
			g.Tick()
		}
	}
}

// Promise 5.2: windows that may be, and those that may not.
func TestWindows(t *testing.T) {
	p := made(t, diamond(t), api.Rule{From: 3, To: 0, Budget: 2})
	for _, n := range []int{1, 2, 1<<20 - 1, 1 << 20} {
		if g := opened(t, p, n); g.Left(0) != 2 {
			t.Errorf("Left: %d", g.Left(0))
		}
	}
	for _, n := range []int{0, -1, 1<<20 + 1, math.MaxInt, math.MinInt} {
		if g, e := p.Ledger(n); g != nil || e != api.ErrArg {
			t.Errorf("Ledger(%d): %v, %v", n, g, e)
		}
	}
}

// Promise 5.2: what is spent is gone up to the last tick of the window, and there again with the first one of the next.
func TestWindowGoesRound(t *testing.T) {
	p := made(t, diamond(t), api.Rule{From: 3, To: 0, Budget: 1})
	for _, window := range []int{1, 2, 3, 10, 1000, 1 << 20} {
		g := opened(t, p, window)
		for round := range 2 {
			if e := g.Spend(0); e != api.OK {
				t.Fatalf("of %d: round %d: %v", window, round, e)
			}
			for tick := range window {
				if e := g.Spend(0); e != api.ErrBudget || g.Left(0) != 0 {
					t.Fatalf("of %d: round %d, tick %d: %v", window, round, tick, e)
				}
				g.Tick()
			}
		}
		if g.Left(0) != 1 {
			t.Errorf("of %d: Left: %d", window, g.Left(0))
		}
	}
}

// Promise 5.2: a window begins with a tick of its own, not so many ticks behind what was spent.
func TestSpentLateInAWindow(t *testing.T) {
	p := made(t, diamond(t), api.Rule{From: 3, To: 0, Budget: 3})
	g := opened(t, p, 4)
	for range 3 {
		g.Tick()
	}
	for range 3 {
		if e := g.Spend(0); e != api.OK {
			t.Fatal(e)
		}
	}
	g.Tick()
	if g.Left(0) != 3 {
		t.Errorf("Left at tick 4: %d", g.Left(0))
	}
	if e := g.Spend(0); e != api.OK || g.Left(0) != 2 {
		t.Errorf("Spend at tick 4: %v, %d left", e, g.Left(0))
	}
	for range 3 {
		g.Tick()
	}
	if g.Left(0) != 2 { // nothing is saved up for the next window either
		t.Errorf("Left at tick 7: %d", g.Left(0))
	}
	g.Tick()
	if g.Left(0) != 3 {
		t.Errorf("Left at tick 8: %d", g.Left(0))
	}
}

// Promise 5.2: the greatest budget is spent one by one.
func TestGreatestBudget(t *testing.T) {
	g := opened(t, made(t, diamond(t), api.Rule{From: 3, To: 0, Budget: 1 << 20}), 1)
	for n := range 1 << 20 {
		if e := g.Spend(0); e != api.OK || g.Left(0) != 1<<20-1-n {
			t.Fatalf("Spend, %d before it: %v, %d left", n, e, g.Left(0))
		}
	}
	if e := g.Spend(0); e != api.ErrBudget || g.Left(0) != 0 {
		t.Errorf("Spend of none: %v, %d left", e, g.Left(0))
	}
}

// Promise 5.2: rules that there are not.
func TestNoSuchRule(t *testing.T) {
	l := chain(t)
	rules := allRules(l)
	for n := range len(rules) + 1 {
		g := opened(t, made(t, l, rules[:n]...), 5)
		for _, no := range append(strangers(), n, n+1, 15) {
			if e := g.Spend(no); e != api.ErrNone || g.Left(no) != 0 {
				t.Errorf("of %d rules: Spend(%d): %v, %d left", n, no, e, g.Left(no))
			}
		}
		for i, r := range rules[:n] {
			if g.Left(i) != r.Budget {
				t.Errorf("of %d rules: Left(%d): %d", n, i, g.Left(i))
			}
		}
	}
}

// The example of the chapter.
func TestExample(t *testing.T) {
	g := opened(t, made(t, ordered(t, 0, 1), api.Rule{From: 1, To: 0, Budget: 2}), 10)
	for i, want := range []api.Errno{api.OK, api.OK, api.ErrBudget} {
		if e := g.Spend(0); e != want {
			t.Errorf("Spend %d: %v", i, e)
		}
	}
	for range 10 {
		g.Tick()
	}
	if e := g.Spend(0); e != api.OK {
		t.Errorf("Spend behind ten ticks: %v", e)
	}
}

// The chapter's ways: a ledger has all that its policy has.
func TestLedgerHasItsPolicy(t *testing.T) {
	rules := allRules(diamond(t))
	g := opened(t, made(t, diamond(t), rules...), 3)
	if g.Size() != len(rules) {
		t.Errorf("Size: %d", g.Size())
	}
	n, e := g.Find(3, 2)
	if e != api.OK {
		t.Fatal(e)
	}
	if r, e := g.Rule(n); r != rules[n] || e != api.OK {
		t.Errorf("Rule(%d): %v, %v", n, r, e)
	}
}

// Rule R3: rules are neither changed nor kept.
func TestMemoryOfItsOwn(t *testing.T) {
	l := diamond(t)
	rules := allRules(l)
	before := slices.Clone(rules)
	p := made(t, l, rules...)
	g := opened(t, p, 3)
	if !slices.Equal(rules, before) {
		t.Errorf("the rules were changed: %v", rules)
	}
	clear(rules)
	holds(t, p, before)
	for n, r := range before {
		if g.Left(n) != r.Budget {
			t.Errorf("Left(%d): %d", n, g.Left(n))
		}
	}
}

// Promises 5.1 and 5.2: policies, and ledgers of one policy, have nothing to do with one another.
func TestApart(t *testing.T) {
	l := diamond(t)
	one, two := []api.Rule{{From: 3, To: 0, Budget: 1}}, []api.Rule{{From: 2, To: 0, Budget: 2}, {From: 3, To: 0, Budget: 3}}
	p, q := made(t, l, one...), made(t, l, two...)
	holds(t, p, one)
	holds(t, q, two)
	a, b := opened(t, q, 2), opened(t, q, 3)
	a.Tick()
	if e := a.Spend(1); e != api.OK || a.Left(1) != 2 || b.Left(1) != 3 {
		t.Errorf("Spend: %v, %d and %d left", e, a.Left(1), b.Left(1))
	}
	if e := b.Spend(0); e != api.OK || a.Left(0) != 2 || b.Left(0) != 1 {
		t.Errorf("Spend: %v, %d and %d left", e, a.Left(0), b.Left(0))
	}
	a.Tick()
	if a.Left(1) != 3 || b.Left(0) != 1 {
		t.Errorf("behind a window of one of them: %d and %d left", a.Left(1), b.Left(0))
	}
	holds(t, q, two)
}

// entry is one that was let down by a rule at a tick.
type entry struct{ rule, tick int }

// model is a ledger by the words of the chapter: the tick, and all that was ever let down.
type model struct {
	window, tick int
	entries      []entry
}

// spent is how many were let down by a rule in the window of the tick.
func (m *model) spent(n int) int {
	found := 0
	for _, x := range m.entries {
		if x.rule == n && x.tick/m.window == m.tick/m.window {
			found++
		}
	}
	return found
}

// Promises 5.2 to 5.4: whatever is spent, in whatever order, the ledger is as the model: no rule passes its budget in a window, and none changes another one.
func TestAgainstTheModel(t *testing.T) {
	l := chain(t)
	for seed := range 80 {
		r := rand.New(rand.NewSource(int64(seed)))
		rules := allRules(l)
		r.Shuffle(len(rules), func(i, j int) { rules[i], rules[j] = rules[j], rules[i] })
		rules = rules[:1+r.Intn(len(rules))]
		for i := range rules {
			rules[i].Budget = 1 + r.Intn(4)
		}
		m := &model{window: 1 + r.Intn(6)}
		g := opened(t, made(t, l, rules...), m.window)
		for step := range 300 {
			what := fmt.Sprintf("seed %d, step %d", seed, step)
			if r.Intn(6) == 0 {
				g.Tick()
				m.tick++
			} else {
				spendBoth(t, g, m, rules, r.Intn(len(rules)), what)
			}
			for n, rule := range rules {
				if g.Left(n) != rule.Budget-m.spent(n) || g.Left(n) < 0 {
					t.Fatalf("%s: Left(%d): %d", what, n, g.Left(n))
				}
			}
		}
	}
}

// spendBoth spends of a ledger and of its model.
func spendBoth(t *testing.T, g *policy.Ledger, m *model, rules []api.Rule, n int, what string) {
	t.Helper()
	want := api.ErrBudget
	if m.spent(n) < rules[n].Budget {
		want = api.OK
		m.entries = append(m.entries, entry{n, m.tick})
	}
	if e := g.Spend(n); e != want {
		t.Fatalf("%s: Spend(%d): %v, not %v", what, n, e, want)
	}
}

// Rule R6: what is asked changes nothing, nor does what is refused.
func TestAskingChangesNothing(t *testing.T) {
	rules := allRules(chain(t))
	p := made(t, chain(t), rules...)
	g := opened(t, p, 2)
	for range 3 {
		for _, n := range append(strangers(), 0) { // of the rule 0 one alone may be let down
			g.Spend(n)
		}
		holds(t, p, rules)
		for n, r := range rules[1:] {
			if g.Left(n+1) != r.Budget {
				t.Errorf("Left(%d): %d", n+1, g.Left(n+1))
			}
		}
		if g.Left(0) != 0 {
			t.Errorf("Left(0): %d", g.Left(0))
		}
	}
}
