// Package why tells from which equalities something follows: see doc/04-why.md.
package why

import (
	"equate/api"
	"equate/term"
)

// Follows tells whether two terms are the same by some pairs (E1).
func Follows(b *term.Bank, l []api.Pair, x int, y int) bool { return false }

// Why tells by which of them (E2).
func Why(b *term.Bank, l []api.Pair, x int, y int) ([]int, bool) { return nil, false }
