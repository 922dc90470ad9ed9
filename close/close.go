// Package close tells what follows from equalities: see doc/03-close.md.
package close

import (
	"equate/api"
	"equate/term"
)

// Closure keeps equalities, and what follows. Make it by New.
type Closure struct{}

// New makes the closure of no pairs (D2).
func New(b *term.Bank) *Closure { return &Closure{} }

// Merge tells a pair (D2).
func (c *Closure) Merge(a int, b int) api.Errno { return api.OK }

// Same tells whether two terms are the same (D2).
func (c *Closure) Same(a int, b int) bool { return false }

// Classes tells of each term the least one that is the same (D2).
func (c *Closure) Classes() []int { return nil }

// Mark tells how many pairs were told (D3).
func (c *Closure) Mark() int { return 0 }

// Undo takes pairs back (D3).
func (c *Closure) Undo(mark int) bool { return false }
