package decide

import (
	"equate/api"
	"equate/term"
)

const mostForms = 600

func check(b *term.Bank, l []api.Form) api.Errno {
	if !areFormulas(b, l) {
		return api.ErrNone
	}
	if areMany(l) {
		return api.ErrMany
	}
	return api.OK
}

// areFormulas tells whether all of l are formulas of the bank (F2). It comes to each place in memory once, so it ends
// soon even where Forms share their Kids, or one is among its own.
func areFormulas(b *term.Bank, l []api.Form) bool {
	met := map[*api.Form]struct{}{}
	todo := [][]api.Form{l}
	for len(todo) > 0 {
		last := len(todo) - 1
		forms := todo[last]
		todo = todo[:last]
		for i := range forms {
			f := &forms[i]
			if _, ok := met[f]; ok {
				continue
			}
			if !isWhole(f, b.Size()) {
				return false
			}
			met[f] = struct{}{}
			todo = append(todo, f.Kids)
		}
	}
	return true
}

// isWhole tells whether a form is as F2 has it, but for its kids, of a bank with so many terms.
func isWhole(f *api.Form, terms int) bool {
	switch f.Op {
	case api.Equal:
		return len(f.Kids) == 0 && isBelow(f.Pair.A, terms) && isBelow(f.Pair.B, terms)
	case api.Not:
		return len(f.Kids) == 1 && f.Pair == api.Pair{}
	case api.And, api.Or, api.Implies:
		return len(f.Kids) == 2 && f.Pair == api.Pair{}
	}
	return false
}

func isBelow(n int, bound int) bool { return 0 <= n && n < bound }

// areMany tells whether there are too many Forms, and looks at no more than it must.
func areMany(l []api.Form) bool {
	count := len(l)
	for todo := [][]api.Form{l}; len(todo) > 0 && count <= mostForms; todo = todo[1:] {
		for _, f := range todo[0] {
			count += len(f.Kids)
			todo = append(todo, f.Kids)
		}
	}
	return count > mostForms
}
