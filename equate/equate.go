// Package equate answers lines about formulas: see doc/08-equate.md.
package equate

import "equate/api"

// Session is formulas that were told. Make it by New.
type Session struct{}

// New makes a session without formulas (K1).
func New() *Session { return &Session{} }

// Line answers a line (K1).
func (s *Session) Line(line string) string { return "" }

// Many answers many scripts, by several goroutines (K2).
func Many(scripts [][]string, workers int) ([][]string, api.Errno) { return nil, api.OK }
