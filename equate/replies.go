package equate

import (
	"strconv"
	"strings"

	"equate/api"
	"equate/decide"
	"equate/logic"
)

// reply answers a line of a word: rest is what stands behind that, with the blank.
type reply func(s *Session, rest string) (string, error)

// replies has the reply of each word.
var replies map[string]reply

func init() {
	replies = map[string]reply{
		"tell":    withForm((*Session).tell),
		"push":    alone((*Session).push),
		"pop":     alone((*Session).pop),
		"check":   decided(saying("sat"), saying("unsat")),
		"core":    decided(saying("sat"), coreOf),
		"model":   decided(classesOf, saying("unsat")),
		"follows": withForm((*Session).follows),
		"show":    withForm((*Session).show),
		"same":    withText((*Session).same),
	}
}

// alone makes the reply of a word behind which nothing stands.
func alone(answer func(*Session) (string, error)) reply {
	return func(s *Session, rest string) (string, error) {
		if rest != "" {
			return "", errLine
		}
		return answer(s)
	}
}

// withText makes the reply of a word behind which a blank and a text stand.
func withText(answer func(*Session, string) (string, error)) reply {
	return func(s *Session, rest string) (string, error) {
		text, ok := strings.CutPrefix(rest, " ")
		if !ok {
			return "", errLine
		}
		return answer(s, text)
	}
}

// withForm makes the reply of a word behind which a blank and a formula stand.
func withForm(answer func(*Session, api.Form) (string, error)) reply {
	return withText(func(s *Session, text string) (string, error) {
		f, errno, place := logic.Parse(s.bank, text)
		if errno != api.OK {
			return "", misreading{errno, place}
		}
		return answer(s, f)
	})
}

// decided makes the reply of a word that asks whether all that is told can be true: it tells something of a model, or of
// there being none.
func decided(sat func(api.Answer) string, unsat func(api.Answer) string) reply {
	return alone(func(s *Session) (string, error) {
		a, errno := decide.Decide(s.bank, s.told)
		if errno != api.OK {
			return "", refusal{errno}
		}
		if a.Sat {
			return sat(a), nil
		}
		return unsat(a), nil
	})
}

// saying makes a function that tells no more than one text.
func saying(text string) func(api.Answer) string {
	return func(api.Answer) string { return text }
}

func coreOf(a api.Answer) string { return joined(a.Core...) }

func classesOf(a api.Answer) string { return joined(a.Classes...) }

func (s *Session) tell(f api.Form) (string, error) {
	s.told = append(s.told, f)
	return joined(len(s.told) - 1), nil
}

func (s *Session) push() (string, error) {
	s.pushes = append(s.pushes, len(s.told))
	return joined(len(s.pushes)), nil
}

func (s *Session) pop() (string, error) {
	last := len(s.pushes) - 1
	if last < 0 {
		return "", refusal{api.ErrNone}
	}
	first := s.pushes[last]
	s.pushes = s.pushes[:last]
	clear(s.told[first:]) // so that nothing of them is kept
	s.told = s.told[:first]
	return joined(last), nil
}

func (s *Session) follows(f api.Form) (string, error) {
	ok, errno := decide.Follows(s.bank, s.told, f)
	if errno != api.OK {
		return "", refusal{errno}
	}
	if !ok {
		return "no", nil
	}
	return "yes", nil
}

func (s *Session) show(f api.Form) (string, error) {
	return logic.Show(s.bank, f), nil
}

// same reads the second term only if the first one is one.
func (s *Session) same(text string) (string, error) {
	first, second, ok := strings.Cut(text, ";")
	if !ok {
		return "", errLine
	}
	a, err := s.read(first)
	if err != nil {
		return "", err
	}
	b, err := s.read(second)
	if err != nil {
		return "", err
	}
	return s.follows(api.Form{Op: api.Equal, Pair: api.Pair{A: a, B: b}})
}

func (s *Session) read(text string) (int, error) {
	n, errno, place := s.bank.Read(text)
	if errno != api.OK {
		return 0, misreading{errno, place}
	}
	return n, nil
}

// joined writes numbers with blanks between.
func joined(numbers ...int) string {
	texts := make([]string, len(numbers))
	for i, n := range numbers {
		texts[i] = strconv.Itoa(n)
	}
	return strings.Join(texts, " ")
}
