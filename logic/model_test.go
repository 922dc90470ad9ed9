package logic_test

import (
	"math/rand"
	"reflect"
	"slices"
	"strings"
	"testing"

	"equate/api"
	"equate/logic"
	"equate/term"
)

// machine reads a formula with two stacks: one of the signs that wait for what is behind them, one of what was read.
type machine struct {
	bank  *term.Bank
	signs []byte // > is that of ->
	forms []api.Form
	errno api.Errno
	place int
}

func (m *machine) stop(errno api.Errno, place int) { m.errno, m.place = errno, place }

// reduce puts forms together, as long as the last sign is one of some.
func (m *machine) reduce(some string) {
	for len(m.signs) > 0 && strings.IndexByte(some, m.signs[len(m.signs)-1]) >= 0 {
		sign := m.signs[len(m.signs)-1]
		m.signs = m.signs[:len(m.signs)-1]
		last := len(m.forms) - 1
		if sign == '!' {
			m.forms[last] = op(api.Not, m.forms[last])
			continue
		}
		two := op(map[byte]int{'&': api.And, '|': api.Or, '>': api.Implies}[sign], m.forms[last-1], m.forms[last])
		m.forms = append(m.forms[:last-1], two)
	}
}

func skip(s string, i int) int {
	return len(s) - len(strings.TrimLeft(s[i:], " "))
}

func namelike(s string, i int) bool {
	return i < len(s) && strings.IndexByte("abcdefghijklmnopqrstuvwxyz0123456789", s[i]) >= 0
}

// copied is a bank with the same terms.
func copied(b *term.Bank) *term.Bank {
	c := term.New()
	for _, text := range shown(b) {
		c.Read(text)
	}
	return c
}

// term takes the longest text that is a term, and answers where it goes on.
func (m *machine) term(s string, i int) (int, int) {
	for end := len(s); end > i; end-- {
		bare := !strings.HasSuffix(strings.TrimRight(s[i:end], " "), ")")
		if bare && (namelike(s, end) || strings.HasPrefix(s[skip(s, end):], "(")) {
			continue
		}
		if _, errno, _ := copied(m.bank).Read(s[i:end]); errno == api.OK {
			n, _, _ := m.bank.Read(s[i:end])
			return n, skip(s, end)
		}
	}
	_, errno, place := copied(m.bank).Read(s[i:])
	m.stop(errno, i+place)
	return 0, i
}

// operand reads a `!`, a bracket or an equality, and answers where it goes on, and whether a form has ended.
func (m *machine) operand(s string, i int) (int, bool) {
	if s[i] == '!' || s[i] == '(' {
		above := 0
		for _, sign := range m.signs {
			if sign == '!' || sign == '(' {
				above++
			}
		}
		if above >= 20 {
			m.stop(api.ErrDeep, i)
		}
		m.signs = append(m.signs, s[i])
		return i + 1, false
	}
	a, i := m.term(s, i)
	if m.errno != api.OK {
		return i, false
	}
	rest := s[i:]
	switch {
	case strings.HasPrefix(rest, "!="):
		m.signs = append(m.signs, '!')
		i++
	case strings.HasPrefix(rest, "!"):
		m.stop(api.ErrForm, i+1)
		return i, false
	case !strings.HasPrefix(rest, "="):
		m.stop(api.ErrForm, i)
		return i, false
	}
	b, i := m.term(s, skip(s, i+1))
	m.forms = append(m.forms, eq(a, b))
	m.reduce("!")
	return i, true
}

// operator reads what stands behind a form, and answers where it goes on, and whether it still has ended.
func (m *machine) operator(s string, i int) (int, bool) {
	switch {
	case s[i] == '&':
		m.reduce("&")
	case s[i] == '|':
		m.reduce("&|")
	case strings.HasPrefix(s[i:], "->"):
		m.reduce("&|")
		m.signs = append(m.signs, '>')
		return i + 2, false
	case s[i] == '-':
		m.stop(api.ErrForm, i+1)
	case s[i] == ')' && slices.Contains(m.signs, '('):
		m.reduce("&|>")
		m.signs = m.signs[:len(m.signs)-1]
		m.reduce("!")
		return i + 1, true
	default:
		m.stop(api.ErrForm, i)
	}
	m.signs = append(m.signs, s[i])
	return i + 1, false
}

func (m *machine) parse(s string) (api.Form, api.Errno, int) {
	if len(s) > 400 {
		return api.Form{}, api.ErrLong, 0
	}
	ended, i := false, skip(s, 0)
	for i < len(s) && m.errno == api.OK {
		if ended {
			i, ended = m.operator(s, i)
		} else {
			i, ended = m.operand(s, i)
		}
		i = skip(s, i)
	}
	switch {
	case m.errno != api.OK:
		return api.Form{}, m.errno, m.place
	case !ended || slices.Contains(m.signs, '('):
		return api.Form{}, api.ErrForm, len(s)
	}
	m.reduce("&|>")
	return m.forms[0], api.OK, 0
}

// compare reads a text with logic and with the machine, and holds all of both against each other.
func compare(t *testing.T, text string, terms ...string) api.Errno {
	t.Helper()
	b, m := term.New(), &machine{bank: term.New()}
	mustRead(t, b, terms...)
	mustRead(t, m.bank, terms...)
	f, errno, place := logic.Parse(b, text)
	wantF, wantErrno, wantPlace := m.parse(text)
	if errno != wantErrno || place != wantPlace || !reflect.DeepEqual(f, wantF) {
		t.Fatalf("F1: Parse(%q) = %v, %d, %d, want %v, %d, %d", text, f, errno, place, wantF, wantErrno, wantPlace)
	}
	if !slices.Equal(shown(b), shown(m.bank)) {
		t.Fatalf("F1: behind Parse(%q): %q, want %q", text, shown(b), shown(m.bank))
	}
	return errno
}

func TestAllShortTexts(t *testing.T) {
	pieces := []string{"a=b", "a", "=", "!", "&", "|", "-", ">", "(", ")", " "}
	texts := []string{""}
	for from := 0; len(texts) < 20000; from++ {
		for _, piece := range pieces {
			texts = append(texts, texts[from]+piece)
		}
	}
	for _, text := range texts {
		compare(t, text)
	}
}

// writeTerm writes some text that is a term, or nearly one.
func writeTerm(r *rand.Rand) string {
	texts := []string{"a", "b", "c", "f(a)", "f( b)", "g (a,b)", "g(f(c), a )", "f(f(a))", "d", "k(a,b,c,a)"}
	if r.Intn(40) == 0 {
		texts = []string{"f", "g(a)", "abcdefg", "k(a,b,c,a,b)", "f(", "1", "f(a=b)", "f(a))", ""}
	}
	return texts[r.Intn(len(texts))]
}

// writeForm writes some text that is a formula, or nearly one.
func writeForm(r *rand.Rand, size int) string {
	blank := strings.Repeat(" ", max(0, r.Intn(8)-6))
	if size <= 1 {
		return blank + writeTerm(r) + blank + []string{"=", "!="}[r.Intn(2)] + blank + writeTerm(r) + blank
	}
	switch r.Intn(5) {
	case 0:
		return blank + "!" + blank + writeForm(r, size-1)
	case 1:
		return blank + "(" + writeForm(r, size-1) + ")" + blank
	}
	left := 1 + r.Intn(size-1)
	return writeForm(r, left) + blank + []string{"&", "|", "->"}[r.Intn(3)] + blank + writeForm(r, size-left)
}

// spoil changes, leaves out or breaks off at some byte, now and then.
func spoil(r *rand.Rand, text string) string {
	at := r.Intn(len(text))
	switch r.Intn(8) {
	case 0:
		return text[:at] + string("()!=->&| a1$"[r.Intn(12)]) + text[at+1:]
	case 1:
		return text[:at] + text[at+1:]
	case 2:
		return text[:at]
	}
	return text
}

func TestManyTexts(t *testing.T) {
	r := rand.New(rand.NewSource(1))
	seen := map[api.Errno]int{}
	for range 2500 {
		seen[compare(t, spoil(r, writeForm(r, 1+r.Intn(12))), "c", "f(a)")]++
	}
	for range 500 {
		text := "a=b"
		for range 15 + r.Intn(15) {
			text = []string{"!" + text, "(" + text + ")", "! (" + text + ")", "a=b&" + text}[r.Intn(4)]
		}
		seen[compare(t, spoil(r, text))]++
	}
	for _, errno := range []api.Errno{api.OK, api.ErrForm, api.ErrRange, api.ErrDeep, api.ErrTwice} {
		if seen[errno] < 20 {
			t.Errorf("only %d texts with errno %d were tried", seen[errno], errno)
		}
	}
}

func FuzzParse(f *testing.F) {
	for _, text := range []string{"", "a=b", "!(a!=f( b )&c=d)->x=y|z=z", "a=b-c", "a!b", "f(a)=f"} {
		f.Add(text)
	}
	f.Fuzz(func(t *testing.T, text string) {
		compare(t, text, "f(a)")
	})
}
