// Package decide tells whether formulas can be true: see doc/07-decide.md.
package decide

import (
	"slices"

	"equate/api"
	"equate/term"
)

// Decide looks for a model (J2).
func Decide(b *term.Bank, l []api.Form) (api.Answer, api.Errno) {
	if errno := check(b, l); errno != api.OK {
		return api.Answer{}, errno
	}
	p := newProblem(b, l...)
	if classes, ok := p.model(p.all()...); ok {
		return api.Answer{Sat: true, Classes: classes}, api.OK
	}
	return api.Answer{Core: p.core()}, api.OK
}

// Follows tells whether a formula follows from others (J3).
func Follows(b *term.Bank, l []api.Form, f api.Form) (bool, api.Errno) {
	alone := []api.Form{f}
	if errno := check(b, slices.Concat(l, alone)); errno != api.OK {
		return false, errno
	}
	opposite := api.Form{Op: api.Not, Kids: alone}
	p := newProblem(b, slices.Concat(l, []api.Form{opposite})...)
	_, ok := p.model(p.all()...)
	return !ok, api.OK
}
