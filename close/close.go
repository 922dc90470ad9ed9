// Package close tells what follows from equalities: see doc/03-close.md.
package close

import (
	"equate/api"
	"equate/term"
)

// Closure keeps equalities, and what follows. Make it by New.
type Closure struct {
	classes *classes
	told    []int // of each pair how much there was to take back ahead of it
}

// New makes the closure of no pairs (D2).
func New(b *term.Bank) *Closure {
	return &Closure{classes: newClasses(termsOf(b))}
}

// Merge tells a pair (D2).
func (c *Closure) Merge(a int, b int) api.Errno {
	if !c.has(a) || !c.has(b) {
		return api.ErrNone
	}
	c.told = append(c.told, len(c.classes.back))
	c.classes.unite(api.Pair{A: a, B: b})
	return api.OK
}

// Same tells whether two terms are the same (D2).
func (c *Closure) Same(a int, b int) bool {
	return c.classes.Same(a, b)
}

// Classes tells of each term the least one that is the same (D2).
func (c *Closure) Classes() []int {
	least := make([]int, len(c.classes.terms))
	for n := range least {
		least[n] = c.classes.Least(n)
	}
	return least
}

// Mark tells how many pairs were told (D3).
func (c *Closure) Mark() int { return len(c.told) }

// Undo takes pairs back (D3).
func (c *Closure) Undo(mark int) bool {
	if mark < 0 || mark > len(c.told) {
		return false
	}
	if mark < len(c.told) {
		c.classes.takeBack(c.told[mark])
		c.told = c.told[:mark]
	}
	return true
}

func (c *Closure) has(n int) bool {
	return 0 <= n && n < len(c.classes.terms)
}

// termsOf copies the terms, since the bank may take in others behind that.
func termsOf(b *term.Bank) []api.Term {
	terms := make([]api.Term, b.Size())
	for n := range terms {
		terms[n], _ = b.Term(n)
	}
	return terms
}
