// Package sat solves clauses: see doc/06-sat.md.
package sat

import "equate/api"

// Solve looks for values (H1).
func Solve(n int, clauses [][]int) ([]bool, bool, api.Errno) { return nil, false, api.OK }

// Core tells which clauses cannot all be true (H2).
func Core(n int, clauses [][]int) ([]int, bool, api.Errno) { return nil, false, api.OK }
