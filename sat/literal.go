package sat

import "slices"

// truth is what is known of a literal.
type truth int8

const (
	no   truth = -1
	open truth = 0
	yes  truth = 1
)

// variable is one of 1 to n.
type variable int32

// is answers the literal that says so of a variable.
func (v variable) is(t truth) literal {
	l := literal(v) << 1
	if t == no {
		return l.opposite()
	}
	return l
}

// literal says that a variable is true, or that it is false: the two are numbers side by side.
type literal int32

func (l literal) opposite() literal { return l ^ 1 }

func (l literal) variable() variable { return variable(l >> 1) }

func literalOf(x int) literal {
	if x < 0 {
		return variable(-x).is(no)
	}
	return variable(x).is(yes)
}

// literalsOf answers a clause's literals, rising, each once.
func literalsOf(clause []int) []literal {
	all := make([]literal, len(clause))
	for i, x := range clause {
		all[i] = literalOf(x)
	}
	slices.Sort(all)
	return slices.Compact(all)
}
