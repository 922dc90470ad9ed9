package equate

import (
	"errors"

	"equate/api"
)

// errLine says that a line is none of those that have an answer.
var errLine = errors.New("no such line")

// refusal says that a line cannot be followed now.
type refusal struct {
	errno api.Errno
}

func (r refusal) Error() string { return "refused: " + joined(int(r.errno)) }

// misreading says that a text is no formula or no term, and where it is not.
type misreading struct {
	errno api.Errno
	place int
}

func (m misreading) Error() string { return "misread: " + joined(int(m.errno), m.place) }

// report answers the line's answer for an error.
func report(err error) string {
	var m misreading
	if errors.As(err, &m) {
		return "ERR " + joined(int(m.errno), m.place)
	}
	var r refusal
	if errors.As(err, &r) {
		return "ERR " + joined(int(r.errno))
	}
	return "ERR " + joined(int(api.ErrForm))
}
