package lattice_test

import (
	"math"
	"slices"
	"testing"

	"weighlock/api"
	"weighlock/lattice"
)

// rows is a table by its rows, in which x tells that one flows to another.
func rows(l ...string) [][]bool {
	table := make([][]bool, len(l))
	for a, s := range l {
		for _, letter := range s {
			table[a] = append(table[a], letter == 'x')
		}
	}
	return table
}

// closed is the least table in which each flows to itself, the pairs flow, and what flows to one flows on.
func closed(n int, pairs ...[2]int) [][]bool {
	table := make([][]bool, n)
	for a := range table {
		table[a] = make([]bool, n)
		table[a][a] = true
	}
	for _, p := range pairs {
		table[p[0]][p[1]] = true
	}
	for b := range n {
		for a := range n {
			for c := range n {
				table[a][c] = table[a][c] || table[a][b] && table[b][c]
			}
		}
	}
	return table
}

// knownLattices are lattices of all shapes that matter: chains, diamonds, pentagons, cubes cut short, also with labels in no order.
func knownLattices() map[string][][]bool {
	return map[string][][]bool{
		"one":            closed(1),
		"two":            closed(2, [2]int{0, 1}),
		"two, turned":    closed(2, [2]int{1, 0}),
		"chain":          closed(6, [2]int{0, 1}, [2]int{1, 2}, [2]int{2, 3}, [2]int{3, 4}, [2]int{4, 5}),
		"chain, mixed":   closed(6, [2]int{3, 0}, [2]int{0, 5}, [2]int{5, 2}, [2]int{2, 4}, [2]int{4, 1}),
		"diamond":        closed(4, [2]int{0, 1}, [2]int{0, 2}, [2]int{1, 3}, [2]int{2, 3}),
		"diamond, mixed": closed(4, [2]int{2, 1}, [2]int{2, 3}, [2]int{1, 0}, [2]int{3, 0}),
		"three abreast":  closed(5, [2]int{0, 1}, [2]int{0, 2}, [2]int{0, 3}, [2]int{1, 4}, [2]int{2, 4}, [2]int{3, 4}),
		"four abreast":   closed(6, [2]int{0, 1}, [2]int{0, 2}, [2]int{0, 3}, [2]int{0, 4}, [2]int{1, 5}, [2]int{2, 5}, [2]int{3, 5}, [2]int{4, 5}),
		"pentagon":       closed(5, [2]int{0, 1}, [2]int{0, 2}, [2]int{2, 3}, [2]int{1, 4}, [2]int{3, 4}),
		"two by three":   closed(6, [2]int{0, 1}, [2]int{1, 2}, [2]int{3, 4}, [2]int{4, 5}, [2]int{0, 3}, [2]int{1, 4}, [2]int{2, 5}),
		"hexagon":        closed(6, [2]int{0, 1}, [2]int{1, 2}, [2]int{2, 5}, [2]int{0, 3}, [2]int{3, 4}, [2]int{4, 5}),
	}
}

// made is the lattice of a table that is one.
func made(t *testing.T, table [][]bool) *lattice.Lattice {
	t.Helper()
	l, e := lattice.New(table)
	if l == nil || e != api.OK {
		t.Fatalf("New(%v): %v, %v", table, l, e)
	}
	return l
}

// isOrder tells by the words of the chapter whether a table is an order.
func isOrder(f [][]bool) bool {
	for a := range f {
		for b := range f {
			if a == b && !f[a][b] || a != b && f[a][b] && f[b][a] {
				return false
			}
			for c := range f {
				if f[a][b] && f[b][c] && !f[a][c] {
					return false
				}
			}
		}
	}
	return true
}

// turned is a table in which all flow the other way.
func turned(f [][]bool) [][]bool {
	table := make([][]bool, len(f))
	for a := range f {
		for b := range f {
			table[a] = append(table[a], f[b][a])
		}
	}
	return table
}

// joinsOf are all joins of two labels, by the words of the chapter; meets are those of the table that is turned.
func joinsOf(f [][]bool, a, b int) []int {
	var found []int
	for c := range f {
		ok := f[a][c] && f[b][c]
		for d := range f {
			if f[a][d] && f[b][d] && !f[c][d] {
				ok = false
			}
		}
		if ok {
			found = append(found, c)
		}
	}
	return found
}

// wanted is what New must tell of a square table.
func wanted(f [][]bool) api.Errno {
	if !isOrder(f) {
		return api.ErrForm
	}
	for a := range f {
		for b := range f {
			if len(joinsOf(f, a, b)) == 0 || len(joinsOf(turned(f), a, b)) == 0 {
				return api.ErrNone
			}
		}
	}
	return api.OK
}

// holds asks a lattice for all that the chapter tells of its table.
func holds(t *testing.T, l *lattice.Lattice, f [][]bool) {
	t.Helper()
	if l.Size() != len(f) {
		t.Fatalf("%v: Size: %d", f, l.Size())
	}
	up := turned(f)
	for a := range f {
		var below, above []int
		for b := range f {
			if l.Flows(a, b) != f[a][b] {
				t.Fatalf("%v: Flows(%d, %d): %v", f, a, b, l.Flows(a, b))
			}
			if x, e := l.Join(a, b); e != api.OK || !slices.Equal(joinsOf(f, a, b), []int{x}) {
				t.Fatalf("%v: Join(%d, %d): %d, %v", f, a, b, x, e)
			}
			if x, e := l.Meet(a, b); e != api.OK || !slices.Equal(joinsOf(up, a, b), []int{x}) {
				t.Fatalf("%v: Meet(%d, %d): %d, %v", f, a, b, x, e)
			}
			if f[b][a] {
				below = append(below, b)
			}
			if f[a][b] {
				above = append(above, b)
			}
		}
		if !slices.Equal(l.Below(a), below) || !slices.Equal(l.Above(a), above) {
			t.Fatalf("%v: Below(%d): %v; Above: %v", f, a, l.Below(a), l.Above(a))
		}
		if l.Top() == a != (len(below) == len(f)) || l.Bottom() == a != (len(above) == len(f)) {
			t.Fatalf("%v: Bottom: %d; Top: %d", f, l.Bottom(), l.Top())
		}
	}
}

// Promises 4.1 and 4.2: each table of 1 to 4 labels that there is.
func TestAllSmallTables(t *testing.T) {
	found := [5]int{}
	for n := 1; n <= 4; n++ {
		for bits := range 1 << (n * n) {
			table := make([][]bool, n)
			for i := range n * n {
				table[i/n] = append(table[i/n], bits>>i&1 == 1)
			}
			l, e := lattice.New(table)
			if want := wanted(table); e != want || (l == nil) != (want != api.OK) {
				t.Fatalf("New(%v): %v, not %v", table, e, want)
			}
			if e == api.OK {
				found[n]++
				holds(t, l, table)
			}
		}
	}
	if found != [5]int{0, 1, 2, 6, 36} { // as many as there are lattices with labelled elements
		t.Errorf("lattices: %v", found)
	}
}

// Promises 4.1 and 4.2: lattices of up to 6 labels.
func TestKnownLattices(t *testing.T) {
	for name, table := range knownLattices() {
		if wanted(table) != api.OK {
			t.Fatalf("the test itself is wrong: %s", name)
		}
		holds(t, made(t, table), table)
	}
}

// Promise 4.1: the errors, the first one of several.
func TestWrongTables(t *testing.T) {
	for i, c := range []struct {
		table [][]bool
		want  api.Errno
	}{
		{nil, api.ErrArg},
		{[][]bool{}, api.ErrArg},
		{[][]bool{nil}, api.ErrArg},
		{rows("xx"), api.ErrArg},
		{rows("xx", "x"), api.ErrArg},
		{rows("xx", ".x."), api.ErrArg},
		{rows("x", "x"), api.ErrArg},
		{rows("..", "."), api.ErrArg}, // no order either
		{rows("xxx", "xx.", ""), api.ErrArg},
		{make([][]bool, 7), api.ErrArg},
		{closed(7, [2]int{0, 1}, [2]int{1, 2}, [2]int{2, 3}, [2]int{3, 4}, [2]int{4, 5}, [2]int{5, 6}), api.ErrArg},
		{rows("."), api.ErrForm},
		{rows("xx", ".."), api.ErrForm},
		{rows(".x", ".x"), api.ErrForm},
		{rows("xx", "xx"), api.ErrForm},
		{rows("xx.", ".xx", "..x"), api.ErrForm},
		{rows("xx.", ".xx", "x.x"), api.ErrForm},
		{rows("x.xx", ".x.x", "..xx", "..xx"), api.ErrForm},
		{rows("x.", ".."), api.ErrForm},                     // no join either
		{rows("x.", ".x"), api.ErrNone},                     // neither join nor meet
		{rows("x.x", ".xx", "..x"), api.ErrNone},            // no meet alone
		{rows("xxx", ".x.", "..x"), api.ErrNone},            // no join alone
		{rows("x.xx", ".xxx", "..x.", "...x"), api.ErrNone}, // two above both, none the nearest
		{closed(6, [2]int{0, 1}, [2]int{0, 2}, [2]int{1, 3}, [2]int{1, 4}, [2]int{2, 3}, [2]int{2, 4}, [2]int{3, 5}, [2]int{4, 5}), api.ErrNone},
	} {
		if l, e := lattice.New(c.table); l != nil || e != c.want {
			t.Errorf("%d: %v, %v, not %v", i, l, e, c.want)
		}
	}
}

// strangers are numbers that are no label of a lattice of n labels.
func strangers(n int) []int { return []int{-1, n, n + 1, 6, 7, math.MaxInt, math.MinInt} }

// Promise 4.2: numbers that are no labels.
func TestNoLabels(t *testing.T) {
	for name, table := range knownLattices() {
		l := made(t, table)
		for _, no := range strangers(l.Size()) {
			if len(l.Below(no)) != 0 || len(l.Above(no)) != 0 || l.Flows(no, no) {
				t.Errorf("%s: Below(%d): %v; Above: %v", name, no, l.Below(no), l.Above(no))
			}
			for a := range table {
				if l.Flows(a, no) || l.Flows(no, a) {
					t.Errorf("%s: Flows(%d, %d)", name, a, no)
				}
				for _, p := range [][2]int{{a, no}, {no, a}, {no, no}} {
					if x, e := l.Join(p[0], p[1]); x != 0 || e != api.ErrArg {
						t.Errorf("%s: Join(%d, %d): %d, %v", name, p[0], p[1], x, e)
					}
					if x, e := l.Meet(p[0], p[1]); x != 0 || e != api.ErrArg {
						t.Errorf("%s: Meet(%d, %d): %d, %v", name, p[0], p[1], x, e)
					}
				}
			}
		}
	}
}

// Promise 4.2: of nil.
func TestNil(t *testing.T) {
	var l *lattice.Lattice
	if l.Size() != 0 || l.Bottom() != -1 || l.Top() != -1 {
		t.Errorf("%d, %d, %d", l.Size(), l.Bottom(), l.Top())
	}
	for _, a := range []int{-1, 0, 1} {
		if l.Flows(a, 0) || l.Flows(0, a) || len(l.Below(a)) != 0 || len(l.Above(a)) != 0 {
			t.Errorf("%v, %v, %v", l.Flows(a, 0), l.Below(a), l.Above(a))
		}
		if x, e := l.Join(a, 0); x != 0 || e != api.ErrState {
			t.Errorf("Join(%d, 0): %d, %v", a, x, e)
		}
		if x, e := l.Meet(0, a); x != 0 || e != api.ErrState {
			t.Errorf("Meet(0, %d): %d, %v", a, x, e)
		}
	}
}

// The example of the chapter.
func TestExample(t *testing.T) {
	l := made(t, rows("xxxx", ".x.x", "..xx", "...x"))
	if x, e := l.Join(1, 2); x != 3 || e != api.OK {
		t.Errorf("Join: %d, %v", x, e)
	}
	if x, e := l.Meet(1, 2); x != 0 || e != api.OK {
		t.Errorf("Meet: %d, %v", x, e)
	}
}

// Rule R3: the table is neither changed nor kept, and answers share nothing.
func TestMemoryOfItsOwn(t *testing.T) {
	table := rows("xxxx", ".x.x", "..xx", "...x")
	l := made(t, table)
	if want := rows("xxxx", ".x.x", "..xx", "...x"); !slices.EqualFunc(table, want, slices.Equal) {
		t.Errorf("the table was changed: %v", table)
	}
	for a := range table {
		for b := range table {
			table[a][b] = false
		}
	}
	l.Below(3)[0], l.Above(0)[0] = 9, 9
	holds(t, l, rows("xxxx", ".x.x", "..xx", "...x"))
}

// Promise 4.2: each lattice is one of its own.
func TestLatticesApart(t *testing.T) {
	up, down := rows("xx", ".x"), rows("x.", "xx")
	a, b := made(t, up), made(t, down)
	holds(t, a, up)
	holds(t, b, down)
}

// Promise 4.3.
func TestLaws(t *testing.T) {
	for name, table := range knownLattices() {
		l := made(t, table)
		join := func(a, b int) int { x, _ := l.Join(a, b); return x }
		meet := func(a, b int) int { x, _ := l.Meet(a, b); return x }
		for a := range table {
			if join(a, a) != a || meet(a, a) != a {
				t.Errorf("%s: not idempotent: %d", name, a)
			}
			for b := range table {
				if join(a, b) != join(b, a) || meet(a, b) != meet(b, a) {
					t.Errorf("%s: not commutative: %d, %d", name, a, b)
				}
				if join(a, meet(a, b)) != a || meet(a, join(a, b)) != a {
					t.Errorf("%s: not absorbing: %d, %d", name, a, b)
				}
				if l.Flows(a, b) != (join(a, b) == b) || l.Flows(a, b) != (meet(a, b) == a) {
					t.Errorf("%s: Flows(%d, %d): %v", name, a, b, l.Flows(a, b))
				}
				for c := range table {
					if join(a, join(b, c)) != join(join(a, b), c) || meet(a, meet(b, c)) != meet(meet(a, b), c) {
						t.Errorf("%s: not associative: %d, %d, %d", name, a, b, c)
					}
				}
			}
		}
	}
}

// Promise 4.4: two flow to one just if their join does; one flows to two just if it flows to their meet.
func TestTwoFlowToOne(t *testing.T) {
	for name, table := range knownLattices() {
		l := made(t, table)
		for a := range table {
			for b := range table {
				join, _ := l.Join(a, b)
				meet, _ := l.Meet(a, b)
				for c := range table {
					if (l.Flows(a, c) && l.Flows(b, c)) != l.Flows(join, c) {
						t.Errorf("%s: %d and %d to %d, by their join %d", name, a, b, c, join)
					}
					if (l.Flows(c, a) && l.Flows(c, b)) != l.Flows(c, meet) {
						t.Errorf("%s: %d to %d and %d, by their meet %d", name, c, a, b, meet)
					}
				}
			}
		}
	}
}
