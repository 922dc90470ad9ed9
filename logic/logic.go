// Package logic knows formulas: see doc/05-logic.md.
package logic

import (
	"strings"

	"equate/api"
	"equate/term"
)

// Show writes a formula (F2).
func Show(b *term.Bank, f api.Form) string {
	var out strings.Builder
	equals := "="
	for form, done := range steps(&f) {
		switch {
		case form.Op == api.Equal:
			out.WriteString(b.Show(form.Pair.A) + equals + b.Show(form.Pair.B))
			equals = "="
		case isUnequal(form) && done == 0:
			equals = "!="
		default:
			out.WriteString(signAt(form, done))
		}
	}
	return out.String()
}

func isUnequal(f *api.Form) bool {
	return f.Op == api.Not && len(f.Kids) == 1 && f.Kids[0].Op == api.Equal
}

// signAt is what stands behind so many kids of a form that is no equality.
func signAt(f *api.Form, done int) string {
	switch {
	case f.Op == api.Not && done == 0:
		return "!"
	case f.Op == api.Not:
		return ""
	case done == 0:
		return "("
	case done == len(f.Kids):
		return ")"
	case f.Op == api.And:
		return "&"
	case f.Op == api.Or:
		return "|"
	case f.Op == api.Implies:
		return "->"
	}
	return "?"
}

// Eval tells whether a formula is true (F3).
func Eval(f api.Form, classes []int) bool {
	bound := uint(len(classes))
	same := func(p api.Pair) bool { // a number below 0 is far beyond the bound, as an unsigned one
		return uint(p.A) < bound && uint(p.B) < bound && classes[p.A] == classes[p.B]
	}
	return fold(&f, func(form *api.Form, kids []bool) bool {
		if !isWhole(form) {
			return false
		}
		switch form.Op {
		case api.Not:
			return !kids[0]
		case api.And:
			return kids[0] && kids[1]
		case api.Or:
			return kids[0] || kids[1]
		case api.Implies:
			return !kids[0] || kids[1]
		}
		return same(form.Pair)
	})
}

// Atoms tells a formula's equalities (F3).
func Atoms(f api.Form) []api.Pair {
	var atoms []api.Pair
	counts := map[api.Pair]int{}
	for p := range equalities(&f) {
		counts[p]++
		if counts[p] == 1 {
			atoms = append(atoms, p)
		}
	}
	return atoms
}
