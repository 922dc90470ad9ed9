package decide

import (
	"equate/api"
	"equate/close"
	"equate/logic"
	"equate/sat"
	"equate/why"
)

// model looks for a model in which the formulas with these numbers are true. It takes values for which their clauses
// are true, and the closure of the equalities among them: if a formula is false in that, it learns why, and looks again.
func (p *problem) model(numbers ...int) ([]int, bool) {
	for {
		values, ok, _ := sat.Solve(p.count, p.clausesOf(numbers))
		if !ok {
			return nil, false
		}
		told := p.told(values, numbers)
		classes := p.closed(told)
		wrong := p.wrong(values, classes, numbers)
		if len(wrong) == 0 {
			return classes, true
		}
		p.learn(told, wrong)
	}
}

// told answers the atoms of formulas whose value is true.
func (p *problem) told(values []bool, numbers []int) []api.Pair {
	var atoms []api.Pair
	for _, n := range numbers {
		for _, a := range p.formulas[n].atoms {
			if values[p.variables[a]-1] {
				atoms = addPairs(atoms, a)
			}
		}
	}
	return atoms
}

// closed answers the model in which no more is the same than must be by the pairs.
func (p *problem) closed(told []api.Pair) []int {
	c := close.New(p.bank)
	for _, a := range told {
		c.Merge(a.A, a.B)
	}
	return c.Classes()
}

// wrong answers the atoms whose value is false, but which are true in the model, of formulas that are false there. A
// formula that is true in spite of such an atom needs no lemma.
func (p *problem) wrong(values []bool, classes []int, numbers []int) []api.Pair {
	var atoms []api.Pair
	for _, n := range numbers {
		f := p.formulas[n]
		if logic.Eval(f.Form, classes) {
			continue
		}
		for _, a := range f.atoms {
			if classes[a.A] == classes[a.B] && !values[p.variables[a]-1] {
				atoms = addPairs(atoms, a)
			}
		}
	}
	return atoms
}

// learn makes lemmas that say why the pairs are the same by those that were told. They are single steps, over variables
// for what is between: whole ways could be far too many, since each fork on a way doubles their number.
func (p *problem) learn(told []api.Pair, pairs []api.Pair) {
	proof := newProof(p.terms, told)
	for _, a := range pairs {
		steps := proof.steps(a)
		if !p.hasRoom(steps) {
			p.learnWhole(told, a)
			continue
		}
		for _, s := range steps {
			p.learnStep(s)
		}
	}
}

// hasRoom tells whether all equalities in steps can have a variable. A premise that is no conclusion was told, so it has
// one.
func (p *problem) hasRoom(steps []step) bool {
	missing := map[api.Pair]struct{}{}
	for _, s := range steps {
		if _, ok := p.variables[s.conclusion]; !ok {
			missing[s.conclusion] = struct{}{}
		}
	}
	return p.count+len(missing) <= mostVariables
}

func (p *problem) learnStep(s step) {
	if _, ok := p.known[s]; ok {
		return
	}
	p.known[s] = struct{}{}
	literals := []int{p.variable(s.conclusion)}
	for _, a := range s.premises {
		if a.A != a.B {
			literals = append(literals, -p.variable(a))
		}
	}
	p.say(literals...)
}

// learnWhole says in one lemma why a pair is the same, which needs no new variables.
func (p *problem) learnWhole(told []api.Pair, a api.Pair) {
	numbers, _ := why.Why(p.bank, told, a.A, a.B)
	literals := []int{p.variable(a)}
	for _, n := range numbers {
		literals = append(literals, -p.variable(told[n]))
	}
	p.say(literals...)
}
