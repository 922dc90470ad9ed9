// Package decide tells whether formulas can be true: see doc/07-decide.md.
package decide

import (
	"equate/api"
	"equate/term"
)

// Decide looks for a model (J2).
func Decide(b *term.Bank, l []api.Form) (api.Answer, api.Errno) { return api.Answer{}, api.OK }

// Follows tells whether a formula follows from others (J3).
func Follows(b *term.Bank, l []api.Form, f api.Form) (bool, api.Errno) { return false, api.OK }
