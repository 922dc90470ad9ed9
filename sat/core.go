package sat

import "slices"

// core keeps clauses that cannot all be true.
type core struct {
	n       int
	clauses [][]literal
	numbers []int   // of the clauses that were not dropped, rising
	needed  []bool  // of each clause: without it the others could be true
	uses    [][]int // of each literal the clauses with it
	values  []truth // of each literal, in the last model
}

// newCore takes in clauses. It is no core yet: they may all be true.
func newCore(n int, clauses [][]int) *core {
	c := &core{n: n, needed: make([]bool, len(clauses))}
	for k, given := range clauses {
		c.clauses = append(c.clauses, literalsOf(given))
		c.numbers = append(c.numbers, k)
	}
	return c
}

// solve tells whether all clauses but one can be true. If not, those that the search did without are dropped. The search
// puts the literals of a clause in another order, which changes nothing.
func (c *core) solve(out int) bool {
	s := newSearch(c.n)
	s.tracing = true
	for _, k := range c.numbers {
		if k != out {
			s.add(&clause{literals: c.clauses[k], number: k})
		}
	}
	if s.solve() {
		c.values = s.values
		return true
	}
	c.numbers = origins(s.end)
	return false
}

// shrink drops clauses till each is needed.
func (c *core) shrink() {
	for k, ok := c.next(); ok; k, ok = c.next() {
		if c.solve(k) {
			c.findUses()
			c.needAround(k)
		}
	}
}

// next answers a clause of which it is not known whether it is needed.
func (c *core) next() (int, bool) {
	for _, k := range slices.Backward(c.numbers) {
		if !c.needed[k] {
			return k, true
		}
	}
	return 0, false
}

func (c *core) findUses() {
	c.uses = make([][]int, 2*c.n+2)
	for _, k := range c.numbers {
		for _, l := range c.clauses[k] {
			c.uses[l] = append(c.uses[l], k)
		}
	}
}

// turn is a clause, and how many of its literals were made true, one after the other.
type turn struct {
	clause int
	tried  int
}

// needAround says that a clause is needed: in the model, it alone is false. If one of its literals is made true, and by
// that one clause alone becomes false, then that one is needed likewise; and so on.
func (c *core) needAround(k int) {
	c.needed[k] = true
	way := []turn{{clause: k}}
	for len(way) > 0 {
		last := &way[len(way)-1]
		literals := c.clauses[last.clause]
		if last.tried > 0 {
			c.swap(literals[last.tried-1]) // back to the model of this turn
		}
		if last.tried == len(literals) {
			way = way[:len(way)-1]
			continue
		}
		l := literals[last.tried]
		last.tried++
		c.swap(l)
		if other, ok := c.onlyFalse(l.opposite()); ok && !c.needed[other] {
			c.needed[other] = true
			way = append(way, turn{clause: other})
		}
	}
}

// swap gives the variable of a literal its other value in the model.
func (c *core) swap(l literal) {
	c.values[l], c.values[l.opposite()] = c.values[l.opposite()], c.values[l]
}

// onlyFalse tells which of the clauses with a literal is false, if it is one alone.
func (c *core) onlyFalse(l literal) (int, bool) {
	found := -1
	for _, k := range c.uses[l] {
		if c.isTrue(k) {
			continue
		}
		if found >= 0 {
			return 0, false
		}
		found = k
	}
	return found, found >= 0
}

func (c *core) isTrue(k int) bool {
	return slices.ContainsFunc(c.clauses[k], func(l literal) bool { return c.values[l] == yes })
}
