package logic

import (
	"iter"

	"equate/api"
)

// step is a form on the way down, and how many of its kids were gone through.
type step struct {
	form *api.Form
	done int
}

// isWhole tells whether a form has one of the Ops, and as many Kids as are told of it. It counts those of an Equal too,
// which the walk leaves out.
func isWhole(f *api.Form) bool {
	switch f.Op {
	case api.Equal:
		return len(f.Kids) == 0
	case api.Not:
		return len(f.Kids) == 1
	case api.And, api.Or, api.Implies:
		return len(f.Kids) == 2
	}
	return false
}

// kids are the forms that are gone through within f. Those of an Equal are not, since they are no atoms (F3).
func kids(f *api.Form) []api.Form {
	if f.Op == api.Equal {
		return nil
	}
	return f.Kids
}

// steps goes through f from the left: to each form ahead of its kids, between them, and behind them, with how many of
// them are done. The way down is kept in a list: a Form may be far deeper than calls can be.
func steps(f *api.Form) iter.Seq2[*api.Form, int] {
	return func(yield func(*api.Form, int) bool) {
		way := []step{{form: f}}
		for len(way) > 0 {
			last := &way[len(way)-1]
			form, done := last.form, last.done
			if !yield(form, done) {
				return
			}
			if done == len(kids(form)) {
				way = way[:len(way)-1]
				continue
			}
			last.done++
			way = append(way, step{form: &form.Kids[done]})
		}
	}
}

// ends goes through f from the left, to each form behind its kids.
func ends(f *api.Form) iter.Seq[*api.Form] {
	return func(yield func(*api.Form) bool) {
		for form, done := range steps(f) {
			if done == len(kids(form)) && !yield(form) {
				return
			}
		}
	}
}

// equalities goes through the Pairs of f's Equals, from the left.
func equalities(f *api.Form) iter.Seq[api.Pair] {
	return func(yield func(api.Pair) bool) {
		for form := range ends(f) {
			if form.Op == api.Equal && !yield(form.Pair) {
				return
			}
		}
	}
}

// fold answers what f comes to, if each form's value is made of those of its kids.
func fold[T any](f *api.Form, value func(form *api.Form, kids []T) T) T {
	var values []T
	for form := range ends(f) {
		first := len(values) - len(kids(form))
		values = append(values[:first], value(form, values[first:]))
	}
	return values[0]
}
