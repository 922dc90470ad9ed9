package decide

import (
	"slices"

	"equate/api"
	"equate/find"
)

const mostArgs = 4

// step says that the two terms of a pair are the same, if those of each premise are.
type step struct {
	conclusion api.Pair
	premises   [mostArgs]api.Pair // a pair of a term and itself says nothing
}

func newStep(conclusion api.Pair, premises ...api.Pair) step {
	s := step{conclusion: conclusion}
	copy(s.premises[:], premises)
	return s
}

// signature is what terms that follow to be the same have in common: their name, and the classes of their args.
type signature struct {
	name string
	args [mostArgs]int // the least terms of the classes
}

// proof knows why terms are the same. A link is between two terms that were told, or between two whose args are the same
// by links ahead of it. Links make trees, so what a way is made of came ahead of all that hangs on it.
type proof struct {
	*find.Sets
	terms []api.Term
	told  []api.Pair
	links [][]int // of each term the terms at the other end
}

func newProof(terms []api.Term, told []api.Pair) *proof {
	p := &proof{Sets: find.New(len(terms)), terms: terms, told: told, links: make([][]int, len(terms))}
	for _, a := range told {
		p.link(a.A, a.B)
	}
	for p.linkByArgs() {
	}
	return p
}

// link links two terms, and tells whether they were not the same before.
func (p *proof) link(a int, b int) bool {
	if !p.Join(a, b) {
		return false
	}
	p.links[a] = append(p.links[a], b)
	p.links[b] = append(p.links[b], a)
	return true
}

// linkByArgs links terms whose args are the same now, and tells whether there was a new link.
func (p *proof) linkByArgs() bool {
	found := false
	first := map[signature]int{}
	for n, t := range p.terms {
		s := signature{name: t.Name}
		for i, arg := range t.Args {
			s.args[i] = p.Least(arg)
		}
		other, ok := first[s]
		if !ok {
			first[s] = n
		} else if p.link(other, n) {
			found = true
		}
	}
	return found
}

// steps answers steps from pairs that were told to a pair that is the same by them.
func (p *proof) steps(goal api.Pair) []step {
	var steps []step
	goals := []api.Pair{goal}
	for i := 0; i < len(goals); i++ {
		path := p.path(goals[i].A, goals[i].B)
		for k := 1; k < len(path); k++ {
			link := ordered(path[k-1], path[k])
			if !slices.Contains(p.told, link) {
				args := p.argPairs(link)
				steps = append(steps, newStep(link, args...))
				goals = addPairs(goals, args...)
			}
			if k > 1 {
				steps = append(steps, newStep(ordered(path[0], path[k]), ordered(path[0], path[k-1]), link))
			}
		}
	}
	return steps
}

// addPairs adds pairs that are not in the list yet.
func addPairs(list []api.Pair, pairs ...api.Pair) []api.Pair {
	for _, a := range pairs {
		if !slices.Contains(list, a) {
			list = append(list, a)
		}
	}
	return list
}

// argPairs answers the pairs of two terms' args, one by one.
func (p *proof) argPairs(a api.Pair) []api.Pair {
	var pairs []api.Pair
	for i, arg := range p.terms[a.A].Args {
		pairs = append(pairs, ordered(arg, p.terms[a.B].Args[i]))
	}
	return pairs
}

// path answers the terms on the way along links from one term to another.
func (p *proof) path(from int, to int) []int {
	next := make([]int, len(p.terms)) // of each term the next one on its way to the end, and 1 more
	next[to] = to + 1
	for todo := []int{to}; next[from] == 0; todo = todo[1:] {
		for _, n := range p.links[todo[0]] {
			if next[n] == 0 {
				next[n] = todo[0] + 1
				todo = append(todo, n)
			}
		}
	}
	path := []int{from}
	for n := from; n != to; {
		n = next[n] - 1
		path = append(path, n)
	}
	return path
}
