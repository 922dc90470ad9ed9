// Package why tells from which equalities something follows: see doc/04-why.md.
package why

import (
	"slices"

	"equate/api"
	"equate/close"
	"equate/term"
)

// Follows tells whether two terms are the same by some pairs (E1).
func Follows(b *term.Bank, l []api.Pair, x int, y int) bool {
	_, ok := enough(b, l, x, y)
	return ok
}

// Why tells by which of them (E2).
func Why(b *term.Bank, l []api.Pair, x int, y int) ([]int, bool) {
	rest, ok := enough(b, l, x, y)
	if !ok {
		return nil, false
	}
	// By the needed pairs and the rest it follows, and by no fewer of the needed ones, whatever the rest loses.
	var needed []int
	c := close.New(b)
	for !c.Same(x, y) {
		at := turn(c, l, rest, x, y)
		n := rest[at]
		c.Merge(l[n].A, l[n].B)
		needed = append(needed, n)
		rest = rest[:at]
	}
	slices.Reverse(needed) // each was found ahead of the one before
	return needed, true
}

// enough answers the numbers of pairs from which it follows that x and y are the same, and whether there are such.
// They are as few as the terms, however long l is: those that say nothing new by those ahead of them are left out.
func enough(b *term.Bank, l []api.Pair, x int, y int) ([]int, bool) {
	var numbers []int
	c := close.New(b)
	for n, p := range l {
		if c.Same(x, y) {
			break
		}
		if !c.Same(p.A, p.B) && c.Merge(p.A, p.B) == api.OK {
			numbers = append(numbers, n)
		}
	}
	return numbers, c.Same(x, y)
}

// turn tells at which of the numbers it follows, if c is told those pairs one by one. It leaves c as it was.
func turn(c *close.Closure, l []api.Pair, numbers []int, x int, y int) int {
	mark := c.Mark()
	at := -1
	for !c.Same(x, y) {
		at++
		p := l[numbers[at]]
		c.Merge(p.A, p.B)
	}
	c.Undo(mark)
	return at
}
