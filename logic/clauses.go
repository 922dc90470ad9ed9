package logic

import "equate/api"

// maker makes clauses that say of some variables that they are true just if a form is.
type maker struct {
	atoms   map[api.Pair]int
	count   int // of variables
	clauses [][]int
}

// Clauses makes clauses of a formula (F4).
func Clauses(f api.Form) ([][]int, int) {
	m := maker{atoms: map[api.Pair]int{}}
	for _, p := range Atoms(f) {
		m.atoms[p] = m.variable()
	}
	m.say(fold(&f, m.literal))
	return m.clauses, m.count
}

// literal answers a literal that is true just if the form is; kids are those of its kids.
func (m *maker) literal(form *api.Form, kids []int) int {
	if !isWhole(form) {
		return m.never()
	}
	switch form.Op {
	case api.Not:
		return -kids[0]
	case api.And:
		return m.both(kids[0], kids[1])
	case api.Or:
		return -m.both(-kids[0], -kids[1])
	case api.Implies:
		return -m.both(kids[0], -kids[1])
	}
	return m.atoms[form.Pair]
}

// never answers a variable that is false, as Eval has it of a form that is not whole.
func (m *maker) never() int {
	x := m.variable()
	m.say(-x)
	return x
}

// both answers a variable that is true just if both literals are.
func (m *maker) both(a int, b int) int {
	x := m.variable()
	m.say(-x, a)
	m.say(-x, b)
	m.say(x, -a, -b)
	return x
}

func (m *maker) variable() int {
	m.count++
	return m.count
}

// say keeps a clause. A caller names its literals one by one, so they are memory of their own.
func (m *maker) say(literals ...int) {
	m.clauses = append(m.clauses, literals)
}
