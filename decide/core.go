package decide

import "slices"

// core answers numbers of formulas, rising: these have no model, but do if any one of them is left out. It is asked for
// where all formulas together have none.
func (p *problem) core() []int {
	some := p.enough()
	for _, n := range slices.Clone(some) {
		rest := without(some, n)
		if _, ok := p.model(rest...); !ok {
			some = rest
		}
	}
	return some
}

// enough answers numbers of formulas that have no model, rising. Each is false in a model of those that were taken ahead
// of it, so most of those that do not matter stay out.
func (p *problem) enough() []int {
	var some []int
	for {
		classes, ok := p.model(some...)
		if !ok {
			slices.Sort(some)
			return some
		}
		some = append(some, p.firstFalse(classes))
	}
}

func without(numbers []int, n int) []int {
	return slices.DeleteFunc(slices.Clone(numbers), func(m int) bool { return m == n })
}
