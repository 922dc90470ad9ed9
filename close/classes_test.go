package close

import (
	"maps"
	"math/rand"
	"slices"
	"testing"

	"equate/term"
)

// kept is all that a closure keeps, but for the classes and the terms.
type kept struct {
	uses  [][]int
	known map[signature]int
	back  int
}

func keptBy(c *Closure) kept {
	k := kept{known: maps.Clone(c.classes.known), back: len(c.classes.back)}
	for _, u := range c.classes.uses {
		k.uses = append(k.uses, slices.Clone(u))
	}
	return k
}

func (k kept) equal(other kept) bool {
	same := slices.EqualFunc(k.uses, other.uses, func(a, b []int) bool { return slices.Equal(a, b) })
	return same && maps.Equal(k.known, other.known) && k.back == other.back
}

func TestD3UndoLeavesNothing(t *testing.T) {
	b := term.New()
	for _, text := range []string{"g(a,b)", "g(b,a)", "g(c,c)", "f(g(a,b))", "f(g(b,a))", "f(f(g(c,c)))", "f(a)", "f(d)"} {
		b.Read(text)
	}
	r := rand.New(rand.NewSource(6))
	for range 500 {
		c := New(b)
		states := []kept{keptBy(c)}
		for range 12 {
			c.Merge(r.Intn(b.Size()), r.Intn(b.Size()))
			states = append(states, keptBy(c))
			mark := r.Intn(len(states))
			if r.Intn(2) == 0 {
				c.Undo(mark)
				states = states[:mark+1]
			}
			if last := states[len(states)-1]; !last.equal(keptBy(c)) {
				t.Fatalf("D3: behind Undo(%d) something is left: %v, want %v", mark, keptBy(c), last)
			}
		}
	}
}
