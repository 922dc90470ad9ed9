package decide

import (
	"slices"

	"equate/api"
	"equate/logic"
	"equate/term"
)

const mostVariables = 2000 // sat takes no more

// formula is one of those that are decided.
type formula struct {
	api.Form
	atoms   []api.Pair
	clauses [][]int
}

// problem is formulas as clauses over common variables, and lemmas: clauses that are true in all models.
type problem struct {
	bank      *term.Bank
	terms     []api.Term
	formulas  []formula
	variables map[api.Pair]int // of equalities
	count     int              // of all variables
	lemmas    [][]int
	known     map[step]struct{} // the steps that are lemmas
}

// newProblem takes in formulas of the bank.
func newProblem(b *term.Bank, forms ...api.Form) *problem {
	p := &problem{bank: b, variables: map[api.Pair]int{}, known: map[step]struct{}{}}
	for n := range b.Size() {
		t, _ := b.Term(n)
		p.terms = append(p.terms, t)
	}
	for _, f := range forms {
		p.add(f)
	}
	return p
}

// add takes in a formula. Its clauses have variables of their own at first; they get those of the problem.
func (p *problem) add(f api.Form) {
	clauses, n := logic.Clauses(f)
	var atoms []api.Pair
	names := make([]int, n+1)
	for i, a := range logic.Atoms(f) {
		atoms = append(atoms, ordered(a.A, a.B))
		names[i+1] = p.variable(atoms[i])
	}
	for i := len(atoms) + 1; i <= n; i++ {
		p.count++
		names[i] = p.count
	}
	for _, c := range clauses {
		rename(c, names)
	}
	p.formulas = append(p.formulas, formula{f, atoms, clauses})
}

func rename(clause []int, names []int) {
	for i, x := range clause {
		if x < 0 {
			clause[i] = -names[-x]
		} else {
			clause[i] = names[x]
		}
	}
}

// ordered is the pair of two terms, whichever of them is named first: so the two equalities have one variable.
func ordered(a int, b int) api.Pair {
	return api.Pair{A: min(a, b), B: max(a, b)}
}

// variable answers the variable of an equality, which is new if there was none.
func (p *problem) variable(a api.Pair) int {
	if x, ok := p.variables[a]; ok {
		return x
	}
	p.count++
	p.variables[a] = p.count
	if a.A == a.B {
		p.say(p.count)
	}
	return p.count
}

// say keeps a lemma. A caller hands over its literals one by one, or a list that is its own.
func (p *problem) say(literals ...int) {
	p.lemmas = append(p.lemmas, literals)
}

// all answers the numbers of all formulas.
func (p *problem) all() []int {
	numbers := make([]int, len(p.formulas))
	for n := range numbers {
		numbers[n] = n
	}
	return numbers
}

// clausesOf answers the clauses of some formulas, and the lemmas.
func (p *problem) clausesOf(numbers []int) [][]int {
	parts := [][][]int{p.lemmas}
	for _, n := range numbers {
		parts = append(parts, p.formulas[n].clauses)
	}
	return slices.Concat(parts...)
}

// firstFalse answers the number of the first formula that is false in a model, or -1.
func (p *problem) firstFalse(classes []int) int {
	return slices.IndexFunc(p.formulas, func(f formula) bool { return !logic.Eval(f.Form, classes) })
}
