// Package sat solves clauses: see doc/06-sat.md.
package sat

import "equate/api"

const mostVariables = 2000

// Solve looks for values (H1).
func Solve(n int, clauses [][]int) ([]bool, bool, api.Errno) {
	if errno := check(n, clauses); errno != api.OK {
		return nil, false, errno
	}
	s := newSearch(n)
	for _, c := range clauses {
		s.add(&clause{literals: literalsOf(c)})
	}
	if !s.solve() {
		return nil, false, api.OK
	}
	values := make([]bool, n)
	for i := range values {
		values[i] = s.values[literalOf(i+1)] == yes
	}
	return values, true, api.OK
}

// Core tells which clauses cannot all be true (H2).
func Core(n int, clauses [][]int) ([]int, bool, api.Errno) {
	if errno := check(n, clauses); errno != api.OK {
		return nil, false, errno
	}
	c := newCore(n, clauses)
	if c.solve(-1) { // there is no such clause, so it is about all of them
		return nil, false, api.OK
	}
	c.shrink()
	return c.numbers, true, api.OK
}

func check(n int, clauses [][]int) api.Errno {
	if n < 0 || n > mostVariables {
		return api.ErrRange
	}
	for _, c := range clauses {
		for _, x := range c {
			if x == 0 || x > n || x < -n {
				return api.ErrNone
			}
		}
	}
	return api.OK
}
