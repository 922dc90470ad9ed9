package close

import (
	"slices"

	"equate/api"
	"equate/find"
)

const mostArgs = 4

// signature is what terms that follow to be the same have in common: their name, and the classes of their args.
type signature struct {
	name string
	args [mostArgs]int // the least terms of the classes
}

// uses are the terms of which a class has an arg. Classes and what takes a join back share them.
type uses []int

// step takes back one thing that was done.
type step = func()

// classes are the classes of terms, closed under equal args. A class is known by its least term.
type classes struct {
	*find.Sets
	terms []api.Term
	uses  []uses
	known map[signature]int // of each signature that there is, or was on the way here, one term that has it
	back  []step
}

// newClasses makes classes of one term each. No two terms have one signature then, since each is in the bank once.
func newClasses(terms []api.Term) *classes {
	c := &classes{Sets: find.New(len(terms)), terms: terms, uses: firstUses(terms), known: map[signature]int{}}
	for n := range terms {
		c.known[c.signature(n)] = n
	}
	return c
}

// firstUses cuts the uses of all terms from one list, each with the room that it needs and no more.
func firstUses(terms []api.Term) []uses {
	counts := make([]int, len(terms))
	total := 0
	for _, t := range terms {
		for _, arg := range t.Args {
			counts[arg]++
			total++
		}
	}
	room := make(uses, total)
	all := make([]uses, len(terms))
	at := 0
	for n, count := range counts {
		all[n] = room[at : at : at+count]
		at += count
	}
	for n, t := range terms {
		for _, arg := range t.Args {
			all[arg] = append(all[arg], n)
		}
	}
	return all
}

// together answers the uses of two classes. If both have some, they go to memory of their own, so that none of those
// who share the old ones sees them grow.
func together(low uses, high uses) uses {
	if len(low) == 0 {
		return high
	}
	if len(high) == 0 {
		return low
	}
	return append(low[:len(low):len(low)], high...)
}

func (c *classes) signature(n int) signature {
	t := c.terms[n]
	s := signature{name: t.Name}
	for i, arg := range t.Args {
		s.args[i] = c.Least(arg)
	}
	return s
}

// unite makes the two terms the same, and all that are so by that.
func (c *classes) unite(first api.Pair) {
	todo := []api.Pair{first}
	for len(todo) > 0 {
		last := len(todo) - 1
		p := todo[last]
		todo = todo[:last]
		low, high := c.Least(p.A), c.Least(p.B)
		if low == high {
			continue
		}
		if low > high {
			low, high = high, low
		}
		c.join(low, high)
		for _, n := range c.uses[high] { // the others' signatures are as they were
			todo = append(todo, api.Pair{A: n, B: c.like(n)})
		}
	}
}

// join makes one class of two, which are told by their least terms.
func (c *classes) join(low int, high int) {
	mark, old := c.Mark(), c.uses[low]
	c.Join(low, high)
	c.uses[low] = together(old, c.uses[high])
	c.back = append(c.back, func() {
		c.Undo(mark)
		c.uses[low] = old
	})
}

// like answers a term with the signature of n: n itself, if there was none. Signatures of classes that are no more
// stay known: nobody asks for them till those are there again.
func (c *classes) like(n int) int {
	s := c.signature(n)
	if other, known := c.known[s]; known {
		return other
	}
	c.known[s] = n
	c.back = append(c.back, func() { delete(c.known, s) })
	return n
}

// takeBack takes back all but the first steps.
func (c *classes) takeBack(first int) {
	for _, undo := range slices.Backward(c.back[first:]) {
		undo()
	}
	clear(c.back[first:])
	c.back = c.back[:first]
}
