package term_test

import (
	"math/rand"
	"slices"
	"strings"
	"testing"

	"equate/api"
	"equate/term"
)

// model is a bank as plainly as can be: texts of terms in their order, and a machine with a stack that reads them.
type model struct {
	texts []string
	sizes map[string]int
}

// open is a term whose bracket is not closed yet.
type open struct {
	name  string
	place int
	args  []string
}

// machine is what the model knows while it goes through a text.
type machine struct {
	texts []string
	sizes map[string]int
	stack []open
	errno api.Errno
	place int
}

func (m *machine) stop(errno api.Errno, place int) { m.errno, m.place = errno, place }

// end takes in a term that has ended, and makes it an arg of the one around it.
func (m *machine) end(o open) {
	if size, ok := m.sizes[o.name]; ok && size != len(o.args) {
		m.stop(api.ErrTwice, o.place)
		return
	}
	m.sizes[o.name] = len(o.args)
	text := o.name
	if len(o.args) > 0 {
		text += "(" + strings.Join(o.args, ",") + ")"
	}
	if !slices.Contains(m.texts, text) {
		m.texts = append(m.texts, text)
	}
	if len(m.stack) > 0 {
		top := &m.stack[len(m.stack)-1]
		top.args = append(top.args, text)
	} else {
		m.stack = append(m.stack, open{name: text, place: -1})
	}
}

// begin reads what should be a term at i, and answers where it goes on, and whether a term has ended.
func (m *machine) begin(s string, i int) (int, bool) {
	if len(m.stack) > 0 && len(m.stack[len(m.stack)-1].args) == 4 {
		m.stop(api.ErrRange, i)
		return i, false
	}
	name := s[i:]
	if k := strings.IndexFunc(name, func(c rune) bool { return !strings.ContainsRune("abcdefghijklmnopqrstuvwxyz0123456789", c) }); k >= 0 {
		name = name[:k]
	}
	if len(name) < 1 || len(name) > 6 || name[0] < 'a' {
		m.stop(api.ErrForm, i)
		return i, false
	}
	if len(m.stack) >= 13 {
		m.stop(api.ErrDeep, i)
		return i, false
	}
	o := open{name: name, place: i}
	rest := strings.TrimLeft(s[i+len(name):], " ")
	if strings.HasPrefix(rest, "(") {
		m.stack = append(m.stack, o)
		return len(s) - len(rest) + 1, false
	}
	m.end(o)
	return i + len(name), true
}

// behind reads the sign behind a term, and answers whether a term has ended with it.
func (m *machine) behind(s string, i int) bool {
	top := len(m.stack) - 1
	switch {
	case m.stack[top].place < 0, s[i] != ',' && s[i] != ')':
		m.stop(api.ErrForm, i)
	case s[i] == ')':
		o := m.stack[top]
		m.stack = m.stack[:top]
		m.end(o)
		return true
	}
	return false
}

func (b *model) read(s string) (int, api.Errno, int) {
	if len(s) > 400 {
		return 0, api.ErrLong, 0
	}
	m := &machine{texts: slices.Clone(b.texts), sizes: map[string]int{}}
	for name, size := range b.sizes {
		m.sizes[name] = size
	}
	ended, i := false, 0
	for i < len(s) && m.errno == api.OK {
		switch {
		case s[i] == ' ':
			i++
		case ended:
			ended = m.behind(s, i)
			i++
		default:
			i, ended = m.begin(s, i)
		}
	}
	switch {
	case m.errno != api.OK:
		return 0, m.errno, m.place
	case !ended || m.stack[len(m.stack)-1].place >= 0:
		return 0, api.ErrForm, len(s)
	case len(m.texts) > 150:
		return 0, api.ErrMany, 0
	}
	b.texts, b.sizes = m.texts, m.sizes
	return slices.Index(b.texts, m.stack[0].name), api.OK, 0
}

// compare reads a text with a bank and its model, and holds all of both against each other.
func compare(t *testing.T, b *term.Bank, m *model, text string) api.Errno {
	t.Helper()
	n, errno, place := b.Read(text)
	wantN, wantErrno, wantPlace := m.read(text)
	if n != wantN || errno != wantErrno || place != wantPlace {
		t.Fatalf("A2: Read(%q) = %d, %d, %d, want %d, %d, %d; the bank has %q", text, n, errno, place, wantN, wantErrno, wantPlace, m.texts)
	}
	if got := shown(b); !slices.Equal(got, m.texts) {
		t.Fatalf("A3: behind Read(%q): %q, want %q", text, got, m.texts)
	}
	return errno
}

func TestAllShortTexts(t *testing.T) {
	const signs = "af1(), $"
	texts := []string{""}
	for from := 0; len(texts[len(texts)-1]) < 5; from++ {
		for _, c := range signs {
			texts = append(texts, texts[from]+string(c))
		}
	}
	b, m := term.New(), &model{}
	for i, text := range texts {
		if i%50 == 0 {
			b, m = term.New(), &model{}
		}
		compare(t, b, m, text)
	}
}

// writeTerm writes some text that is a term, or nearly one.
func writeTerm(r *rand.Rand, above int) string {
	blank := strings.Repeat(" ", max(0, r.Intn(8)-6))
	name := string(rune('a' + r.Intn(5)))
	size := int(name[0] - 'a')
	switch r.Intn(60) {
	case 0:
		name = "1" + name
	case 1:
		name += "bcdef"
	case 2:
		name += "bcdefg"
	case 3:
		size = r.Intn(6)
	}
	if above > r.Intn(15) {
		return blank + "a" + string(rune('0'+r.Intn(10))) + blank
	}
	var args []string
	for range size {
		args = append(args, writeTerm(r, above+1+r.Intn(2)))
	}
	if size == 0 {
		return blank + name + blank
	}
	return blank + name + blank + "(" + strings.Join(args, ",") + ")" + blank
}

// spoil changes, leaves out or breaks off at some byte, now and then.
func spoil(r *rand.Rand, text string) string {
	at := r.Intn(len(text))
	switch r.Intn(12) {
	case 0:
		return text[:at] + string("(),$ 1ab"[r.Intn(8)]) + text[at+1:]
	case 1:
		return text[:at] + text[at+1:]
	case 2:
		return text[:at]
	}
	return text
}

func TestManyTexts(t *testing.T) {
	r := rand.New(rand.NewSource(1))
	seen := map[api.Errno]int{}
	for range 100 {
		b, m := term.New(), &model{}
		for range 200 {
			seen[compare(t, b, m, spoil(r, writeTerm(r, r.Intn(12))))]++
		}
	}
	for _, errno := range []api.Errno{api.OK, api.ErrLong, api.ErrForm, api.ErrRange, api.ErrTwice, api.ErrMany} {
		if seen[errno] < 20 {
			t.Errorf("only %d texts with errno %d were tried", seen[errno], errno)
		}
	}
}

func TestManyDeepTexts(t *testing.T) {
	r := rand.New(rand.NewSource(2))
	deep := 0
	for range 2000 {
		text := "a"
		for range 10 + r.Intn(6) {
			text = []string{"b(" + text + ")", "c(a," + text + ")", "b( " + text + " )", "c(" + text + ",a)"}[r.Intn(4)]
		}
		if compare(t, term.New(), &model{}, spoil(r, text)) == api.ErrDeep {
			deep++
		}
	}
	if deep < 100 {
		t.Errorf("only %d texts were too deep", deep)
	}
}

func FuzzRead(f *testing.F) {
	for _, text := range []string{"", "f(a, g(b))", "m(m)", "k(a,b,a,b,$", "f(f(a)"} {
		f.Add(text, text)
	}
	f.Fuzz(func(t *testing.T, one, two string) {
		b, m := term.New(), &model{}
		compare(t, b, m, one)
		compare(t, b, m, two)
	})
}
