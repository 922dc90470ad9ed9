// Package logic knows formulas: see doc/05-logic.md.
package logic

import (
	"equate/api"
	"equate/term"
)

// Parse reads a formula (F1).
func Parse(b *term.Bank, s string) (api.Form, api.Errno, int) { return api.Form{}, api.OK, 0 }

// Show writes a formula (F2).
func Show(b *term.Bank, f api.Form) string { return "" }

// Eval tells whether a formula is true (F3).
func Eval(f api.Form, classes []int) bool { return false }

// Atoms tells a formula's equalities (F3).
func Atoms(f api.Form) []api.Pair { return nil }

// Clauses makes clauses of a formula (F4).
func Clauses(f api.Form) ([][]int, int) { return nil, 0 }
