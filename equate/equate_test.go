package equate_test

import (
	"strconv"
	"strings"
	"testing"

	"equate/equate"
)

// talk is lines, each with the answer that must come.
type talk [][2]string

func (l talk) run(t *testing.T, promise string) *equate.Session {
	t.Helper()
	s := equate.New()
	l.goOn(t, promise, s)
	return s
}

func (l talk) goOn(t *testing.T, promise string, s *equate.Session) {
	t.Helper()
	for i, line := range l {
		if got := s.Line(line[0]); got != line[1] {
			t.Errorf("%s: line %d, %q: %q, not %q", promise, i, line[0], got, line[1])
		}
	}
}

func TestExamples(t *testing.T) {
	talk{
		{"tell f(f(f(a)))=a", "0"}, {"tell f(f(f(f(f(a)))))=a", "1"}, {"same f(a);a", "yes"},
		{"tell a!=f(a)", "2"}, {"check", "unsat"}, {"core", "0 1 2"}, {"model", "unsat"},
	}.run(t, "example 1")
	talk{
		{"tell a=b | a=c", "0"}, {"tell f(a)!=f(b)", "1"},
		{"follows a=c", "yes"}, {"follows f(c)=f(a)", "yes"}, {"follows b=c", "no"},
	}.run(t, "example 2")
	talk{{"show a = b & !(c = d) -> x != y", "((a=b&c!=d)->x!=y)"}}.run(t, "example 3")
}

func TestK1New(t *testing.T) {
	talk{
		{"check", "sat"}, {"core", "sat"}, {"model", ""}, {"pop", "ERR 7"}, {"follows a=a", "yes"}, {"follows a=b", "no"},
		{"model", "0 1"}, {"tell a=b", "0"},
	}.run(t, "K1")
}

func TestK1PushAndPop(t *testing.T) {
	talk{
		{"tell a=b", "0"}, {"push", "1"}, {"tell b=c", "1"}, {"push", "2"}, {"push", "3"}, {"tell c=d", "2"}, {"tell d=e", "3"},
		{"same a;e", "yes"}, {"pop", "2"}, {"same a;d", "no"}, {"same a;c", "yes"}, {"tell c!=a", "2"}, {"core", "0 1 2"},
		{"pop", "1"}, {"check", "sat"}, {"same a;c", "yes"}, {"pop", "0"}, {"same a;c", "no"}, {"same a;b", "yes"},
		{"pop", "ERR 7"}, {"pop", "ERR 7"}, {"same a;b", "yes"}, {"tell a!=b", "1"}, {"push", "1"}, {"core", "0 1"},
		{"pop", "0"}, {"core", "0 1"},
	}.run(t, "K1")
}

func TestK1Model(t *testing.T) {
	talk{
		{"tell f(a)=b", "0"}, {"tell a!=b", "1"}, {"model", "0 1 1"}, // a, f(a), b
		{"push", "1"}, {"tell f(b)=a", "2"}, {"model", "0 1 1 0"}, {"pop", "0"},
		{"show f(c)=f(d)", "f(c)=f(d)"}, {"push", "1"}, {"tell c=d", "2"}, {"tell f(b)=c", "3"}, {"tell a=c", "4"},
		{"model", "0 1 1 0 0 1 0 1"}, {"tell c=f(d)", "5"}, {"model", "unsat"}, {"check", "unsat"},
	}.run(t, "K1")
}

func TestK1Core(t *testing.T) {
	talk{
		{"tell x=y", "0"}, {"tell a=b", "1"}, {"tell y=z", "2"}, {"core", "sat"}, {"tell g(a,a)!=g(b,b)", "3"}, {"core", "1 3"},
		{"tell c=c", "4"}, {"core", "1 3"}, {"follows a=c", "yes"}, {"follows a!=c", "yes"}, {"same q;r", "yes"},
	}.run(t, "K1")
	s := equate.New()
	for i := range 12 {
		s.Line("tell a" + strconv.Itoa(i) + "=a" + strconv.Itoa(i+1))
	}
	talk{{"tell a12!=a0", "12"}, {"core", "0 1 2 3 4 5 6 7 8 9 10 11 12"}}.goOn(t, "K1", s)
}

func TestK1Show(t *testing.T) {
	talk{
		{"show a=b", "a=b"}, {"show  ! a = b ", "a!=b"}, {"show !!a=b", "!a!=b"}, {"show a=b|c=d&e!=f(g(a,b))", "(a=b|(c=d&e!=f(g(a,b))))"},
		{"show a=b->c=d->x=y", "(a=b->(c=d->x=y))"}, {"check", "sat"}, {"pop", "ERR 7"}, {"tell a=b", "0"},
	}.run(t, "K1")
}

// What is no line of the table is ERR 2, whatever else is wrong with it.
func TestK1OtherLines(t *testing.T) {
	s := equate.New()
	for _, line := range []string{
		"", " ", "  ", "tell", "follows", "show", "same", "push ", "pop ", "check ", "core ", "model ", "push 1", "check it", "pop pop",
		" tell a=b", " push", "Tell a=b", "TELL a=b", "tella=b", "tell\ta=b", "tell\na=b", "push\n", "push\x00", "\x00", "foo", "foo a=b",
		"same a", "same ", "same a=b", "same a,b", "tell;a=b", "same;a;b", "a=b", "\xff\xfe", "é", strings.Repeat("x", 100000), strings.Repeat(" ", 1000),
	} {
		if got := s.Line(line); got != "ERR 2" {
			t.Errorf("K1: %.50q: %q, not ERR 2", line, got)
		}
	}
	talk{{"model", ""}, {"pop", "ERR 7"}, {"tell a=b", "0"}, {"push", "1"}}.goOn(t, "K1", s)
}

func TestK1NoFormula(t *testing.T) {
	for _, c := range [][2]string{
		{"", "ERR 2 0"}, {" ", "ERR 2 1"}, {"a", "ERR 2 1"}, {"a=", "ERR 2 2"}, {"a=b c", "ERR 2 4"}, {"  a = 1", "ERR 2 6"}, {"a=b;", "ERR 2 3"},
		{"a=b - c=d", "ERR 2 5"}, {"(a=b", "ERR 2 4"}, {"a=b\x00", "ERR 2 3"}, {"é=a", "ERR 2 0"}, {"toolong=a", "ERR 2 0"}, {"a=b\n", "ERR 2 3"},
		{strings.Repeat(" ", 400) + "a=b", "ERR 1 0"}, {strings.Repeat("x", 1000000), "ERR 1 0"},
		{strings.Repeat("!", 21) + "a=b", "ERR 4 20"}, {strings.Repeat("!", 20) + "a!=b", ""},
		{"a=k(a,b,c,d,a)", "ERR 3 12"}, {"a=h(a)&a = h(a,b)", "ERR 5 11"}, {"f=a", "ERR 5 0"},
		{"a=" + strings.Repeat("h(", 13) + "a" + strings.Repeat(")", 13), "ERR 4 28"},
	} {
		for _, word := range []string{"tell ", "follows ", "show "} {
			s := equate.New()
			talk{{"tell f(a)=b", "0"}, {"push", "1"}}.goOn(t, "K1", s)
			got := s.Line(word + c[0])
			if c[1] == "" && strings.HasPrefix(got, "ERR") || c[1] != "" && got != c[1] {
				t.Errorf("K1: %.60q: %q, not %q", word+c[0], got, c[1])
			}
			if c[1] != "" {
				talk{{"check", "sat"}, {"pop", "0"}, {"tell a!=b", "1"}, {"same b;f(a)", "yes"}}.goOn(t, "K1", s)
			}
		}
	}
}

func TestK1Same(t *testing.T) {
	talk{
		{"tell a=b", "0"}, {"same a;b", "yes"}, {"same b;a", "yes"}, {"same a;c", "no"}, {"same  f( a ) ; f(b) ", "yes"}, {"same a;a", "yes"},
		{"same zz;zz", "yes"}, {"same ;a", "ERR 2 0"}, {"same a;", "ERR 2 0"}, {"same ;", "ERR 2 0"}, {"same a;b;c", "ERR 2 1"}, {"same a=b;c", "ERR 2 1"},
		{"same a;  b c", "ERR 2 4"}, {"same f;a", "ERR 5 0"}, {"same a; f", "ERR 5 1"}, {"same f(;a", "ERR 2 2"}, {"same A;1", "ERR 2 0"},
		{"same " + strings.Repeat(" ", 400) + "a;b", "ERR 1 0"}, {"same a;" + strings.Repeat(" ", 400) + "b", "ERR 1 0"},
		{"same k(a,b,c,d,a);a", "ERR 3 10"}, {"same a;k(a,b,c,d,a)", "ERR 3 10"},
		{"same " + strings.Repeat("f(", 13) + "a" + strings.Repeat(")", 13) + ";a", "ERR 4 26"},
	}.run(t, "K1")
}

// The model shows how many terms the bank has: those of a line that was refused, as far as they were read, and of what
// was popped.
func TestK1Bank(t *testing.T) {
	s := equate.New()
	size := func(line string, want int) {
		t.Helper()
		s.Line(line)
		if got := len(strings.Fields(s.Line("model"))); got != want {
			t.Errorf("K1: behind %q the bank has %d terms, not %d", line, got, want)
		}
	}
	size("push", 0)
	size("tell a=b", 2)
	size("pop", 2)
	size("tell c=d&", 4)
	size("show f(e)=", 6)
	size("follows x=y(", 7)
	size("same m;n(", 8)
	size("same n(;o", 8)
	size("same q;", 9)
	size("same r", 9)
	size("push s=t", 9)
	size("same u;v", 11)
	size("check", 11)
	for i := range 139 {
		size("show z"+strconv.Itoa(i)+"=a", 12+i)
	}
	size("", 150)
	talk{
		{"tell  b=zz", "ERR 6 3"}, {"follows zz=b", "ERR 6 0"}, {"show a=b|a = zz", "ERR 6 8"}, {"same a;zz", "ERR 6 0"}, {"same zz;a", "ERR 6 0"},
		{"tell z7=z8", "0"}, {"same z8;z7", "yes"},
	}.goOn(t, "K1", s)
}

// 600 Forms can be decided, and no more; what is too much can be told all the same, and popped.
func TestK1TooMany(t *testing.T) {
	s := equate.New()
	for i := range 299 {
		talk{{"tell a!=b", strconv.Itoa(i)}}.goOn(t, "K1", s)
	}
	talk{
		{"tell a=c", "299"}, {"check", "sat"}, {"same a;b", "no"}, {"same a;c", "yes"}, {"follows a!=c", "ERR 6"}, {"follows b=c", "no"},
		{"push", "1"}, {"tell b=c", "300"}, {"check", "unsat"}, {"same a;b", "ERR 6"}, {"follows b=c", "ERR 6"}, {"follows b=", "ERR 2 2"}, {"show b=c", "b=c"},
		{"push", "2"}, {"tell a=a", "301"}, {"check", "ERR 6"}, {"core", "ERR 6"}, {"model", "ERR 6"}, {"follows a=a", "ERR 6"}, {"same a;a", "ERR 6"},
		{"same a;f(", "ERR 2 2"}, {"check it", "ERR 2"}, {"pop", "1"}, {"check", "unsat"}, {"pop", "0"}, {"check", "sat"}, {"same a;b", "no"},
		{"tell a=b|(a=c&!b=c)", "300"}, {"core", "ERR 6"},
	}.goOn(t, "K1", s)
}

func TestK1SessionsShareNothing(t *testing.T) {
	a, b := equate.New(), equate.New()
	talk{{"tell f(x)=y", "0"}, {"push", "1"}}.goOn(t, "K1", a)
	talk{{"model", ""}, {"pop", "ERR 7"}, {"tell f=x", "0"}, {"same y;f(x)", "ERR 5 0"}}.goOn(t, "K1", b)
	talk{{"same y;f(x)", "yes"}, {"tell z=f", "ERR 5 2"}, {"pop", "0"}}.goOn(t, "K1", a)
}

// No line makes a session panic, and each answer is one of the table's.
func FuzzLine(f *testing.F) {
	for _, line := range []string{"tell a=b", "tell f(a)!=b\npush\nfollows a=b|b=c\npop\ncore", "same a;b\nmodel", "show !(a=b)\ncheck", "same f(;a"} {
		f.Add(line)
	}
	f.Fuzz(func(t *testing.T, text string) {
		s := equate.New()
		for _, line := range strings.Split(text, "\n") {
			if answer := s.Line(line); !isAnswer(line, answer) {
				t.Errorf("K1: %q: %q", line, answer)
			}
		}
	})
}

func isAnswer(line string, answer string) bool {
	if strings.HasPrefix(answer, "ERR ") {
		return len(strings.Fields(answer)) <= 3
	}
	word, _, _ := strings.Cut(line, " ")
	switch word {
	case "tell", "push", "pop":
		n, err := strconv.Atoi(answer)
		return err == nil && n >= 0
	case "check":
		return answer == "sat" || answer == "unsat"
	case "core":
		return answer == "sat" || answer != ""
	case "follows", "same":
		return answer == "yes" || answer == "no"
	}
	return word == "model" || word == "show"
}
