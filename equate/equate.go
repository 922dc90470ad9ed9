// Package equate answers lines about formulas: see doc/08-equate.md.
package equate

import (
	"strings"

	"equate/api"
	"equate/term"
)

// Session is formulas that were told. Make it by New.
type Session struct {
	bank   *term.Bank
	told   []api.Form
	pushes []int // of each push that is open how many formulas were told ahead of it
}

// New makes a session without formulas (K1).
func New() *Session { return &Session{bank: term.New()} }

// Line answers a line (K1).
func (s *Session) Line(line string) string {
	word, _, _ := strings.Cut(line, " ")
	reply, ok := replies[word]
	if !ok {
		return report(errLine)
	}
	answer, err := reply(s, line[len(word):])
	if err != nil {
		return report(err)
	}
	return answer
}
