package term_test

import (
	"math"
	"slices"
	"strconv"
	"strings"
	"testing"

	"equate/api"
	"equate/term"
)

type reading struct {
	text  string
	n     int
	errno api.Errno
	place int
}

func checkRead(t *testing.T, promise string, b *term.Bank, want reading) {
	t.Helper()
	n, errno, place := b.Read(want.text)
	if got := (reading{want.text, n, errno, place}); got != want {
		t.Errorf("%s: Read(%q) = %d, %d, %d, want %d, %d, %d", promise, want.text, n, errno, place, want.n, want.errno, want.place)
	}
}

func checkReads(t *testing.T, promise string, b *term.Bank, wants ...reading) {
	t.Helper()
	for _, want := range wants {
		checkRead(t, promise, b, want)
	}
}

func mustRead(t *testing.T, b *term.Bank, text string) int {
	t.Helper()
	n, errno, place := b.Read(text)
	if errno != api.OK {
		t.Fatalf("Read(%q) = %d at %d", text, errno, place)
	}
	return n
}

// nest writes name(name(..(inner)..)) with so many names.
func nest(name string, times int, inner string) string {
	return strings.Repeat(name+"(", times) + inner + strings.Repeat(")", times)
}

// shown is all that a bank says of its terms.
func shown(b *term.Bank) []string {
	var all []string
	for n := range b.Size() {
		all = append(all, b.Show(n))
	}
	return all
}

func TestA1Written(t *testing.T) {
	checkReads(t, "A1", term.New(),
		reading{"a", 0, api.OK, 0},
		reading{"z9", 1, api.OK, 0},
		reading{"abcdef", 2, api.OK, 0},
		reading{"a12345", 3, api.OK, 0},
		reading{"f(a)", 4, api.OK, 0},
		reading{"g(a,z9,a,f(a))", 5, api.OK, 0},
		reading{"  g ( a  ,z9 , a,  f  (a ) )   ", 5, api.OK, 0},
	)
}

func TestA1Same(t *testing.T) {
	b := term.New()
	one := mustRead(t, b, "f(a,g(b))")
	if two := mustRead(t, b, " f ( a , g ( b ) ) "); one != two {
		t.Errorf("A1: the same term is %d and %d", one, two)
	}
	others := []string{"f(g(b),a)", "f(a,g(a))", "f(a,a)", "h(a,g(b))", "ff(a,g(b))"}
	for _, other := range others {
		if n := mustRead(t, b, other); n == one {
			t.Errorf("A1: %s is f(a,g(b))", other)
		}
	}
}

func TestA1NotWritten(t *testing.T) {
	b := term.New()
	checkReads(t, "A1", b,
		reading{"A", 0, api.ErrForm, 0},
		reading{"aB", 0, api.ErrForm, 1},
		reading{"a_b", 0, api.ErrForm, 1},
		reading{"a\t", 0, api.ErrForm, 1},
		reading{"\na", 0, api.ErrForm, 0},
		reading{"a\x00", 0, api.ErrForm, 1},
		reading{"\xff", 0, api.ErrForm, 0},
		reading{"aé", 0, api.ErrForm, 1},
		reading{"f(a;b)", 0, api.ErrForm, 3},
		reading{"f[a]", 0, api.ErrForm, 1},
		reading{"(a)", 0, api.ErrForm, 0},
		reading{"a(b)(c)", 0, api.ErrForm, 4},
		reading{"a,b", 0, api.ErrForm, 1},
		reading{"f(a b)", 0, api.ErrForm, 4},
	)
	if b.Size() != 0 {
		t.Errorf("A2: refused texts left %q", shown(b))
	}
}

func TestA2New(t *testing.T) {
	b, other := term.New(), term.New()
	if b.Size() != 0 || b == other {
		t.Error("A2: a new bank has terms, or is not new")
	}
	mustRead(t, b, "f(a)")
	if other.Size() != 0 {
		t.Error("A2: two banks share terms")
	}
	checkRead(t, "A2: two banks share names", other, reading{"f", 0, api.OK, 0})
}

func TestA2Long(t *testing.T) {
	b := term.New()
	blanks := strings.Repeat(" ", 399)
	checkReads(t, "A2", b,
		reading{blanks + "a", 0, api.OK, 0},
		reading{blanks + "ab", 0, api.ErrLong, 0},
		reading{strings.Repeat("$", 401), 0, api.ErrLong, 0},
		reading{strings.Repeat("$", 400), 0, api.ErrForm, 0},
		reading{strings.Repeat("f(", 1<<20), 0, api.ErrLong, 0},
	)
	if b.Size() != 1 {
		t.Errorf("A2: %q", shown(b))
	}
}

func TestA2Form(t *testing.T) {
	checkReads(t, "A2", term.New(),
		reading{"", 0, api.ErrForm, 0},
		reading{"   ", 0, api.ErrForm, 3},
		reading{"f(", 0, api.ErrForm, 2},
		reading{"f( ", 0, api.ErrForm, 3},
		reading{"f(a", 0, api.ErrForm, 3},
		reading{"f(a ", 0, api.ErrForm, 4},
		reading{"f(a,", 0, api.ErrForm, 4},
		reading{"f()", 0, api.ErrForm, 2},
		reading{"f(,a)", 0, api.ErrForm, 2},
		reading{"f(a,)", 0, api.ErrForm, 4},
		reading{"f(a))", 0, api.ErrForm, 4},
		reading{"f(a) b", 0, api.ErrForm, 5},
		reading{" abcdefg", 0, api.ErrForm, 1},
		reading{"abcdefg$", 0, api.ErrForm, 0},
		reading{"f(abcdef1)", 0, api.ErrForm, 2},
		reading{"f(1)", 0, api.ErrForm, 2},
		reading{"f(a,0a)", 0, api.ErrForm, 4},
		reading{"a 1", 0, api.ErrForm, 2},
	)
}

func TestA2Deep(t *testing.T) {
	b := term.New()
	checkReads(t, "A2", b,
		reading{nest("h", 13, "a"), 0, api.ErrDeep, 26},
		reading{nest("h", 20, "a"), 0, api.ErrDeep, 26},
		reading{"f(a," + nest("h", 12, "a") + ")", 0, api.ErrDeep, 28},
		reading{strings.Repeat("h(", 13) + " b", 0, api.ErrDeep, 27},
	)
	if b.Size() != 0 {
		t.Errorf("A2: %q", shown(b))
	}
	checkReads(t, "A2", b,
		reading{nest("h", 12, "a"), 12, api.OK, 0},
		reading{"f(a," + nest("h", 11, "a") + ")", 13, api.OK, 0},
	)
}

func TestA2FormAheadOfDeep(t *testing.T) {
	checkReads(t, "A2", term.New(),
		reading{strings.Repeat("h(", 13), 0, api.ErrForm, 26},
		reading{nest("h", 13, "$"), 0, api.ErrForm, 26},
		reading{nest("h", 13, "1a"), 0, api.ErrForm, 26},
		reading{nest("h", 13, "abcdefg"), 0, api.ErrForm, 26},
		reading{"$" + nest("h", 13, "a"), 0, api.ErrForm, 0},
		reading{nest("h", 13, "a") + "$", 0, api.ErrDeep, 26},
	)
}

func TestA2Range(t *testing.T) {
	checkReads(t, "A2", term.New(),
		reading{"k(a,b,a,b,a)", 0, api.ErrRange, 10},
		reading{"k(a,b,a,b,)", 0, api.ErrRange, 10},
		reading{"k(a,b,a,b,,", 0, api.ErrRange, 10},
		reading{"k(a,b,a,b,$", 0, api.ErrRange, 10},
		reading{"k(a,b,a,b,1a)", 0, api.ErrRange, 10},
		reading{"k(a,b,a,b,abcdefg)", 0, api.ErrRange, 10},
		reading{"k(a,b,a,b ,  a)", 0, api.ErrRange, 13},
		reading{"g(k(a,b,a,b,a),$)", 0, api.ErrRange, 12},
		reading{"k(a,b,a,b,", 0, api.ErrForm, 10},
		reading{"k(a,b,a,b,  ", 0, api.ErrForm, 12},
		reading{"k(a,b,a,$,a)", 0, api.ErrForm, 8},
		reading{"k(a,b,a,b a)", 0, api.ErrForm, 10},
		reading{"k(a,b,a,b)", 2, api.OK, 0},
	)
}

func TestA2Twice(t *testing.T) {
	b := term.New()
	mustRead(t, b, "f(a,g(b))")
	checkReads(t, "A2", b,
		reading{"f(a)", 0, api.ErrTwice, 0},
		reading{"f(a,a,a)", 0, api.ErrTwice, 0},
		reading{" f", 0, api.ErrTwice, 1},
		reading{"a(b)", 0, api.ErrTwice, 0},
		reading{"x(y, g(a,b))", 0, api.ErrTwice, 5},
		reading{"m(m)", 0, api.ErrTwice, 0},
		reading{"n(m(a),m(a,a))", 0, api.ErrTwice, 7},
		reading{"n(m,m(a))", 0, api.ErrTwice, 4},
		reading{"n(m(n))", 0, api.ErrTwice, 0},
	)
	if b.Size() != 4 {
		t.Errorf("A2: %q", shown(b))
	}
}

// A term without args has ended with its name, whatever stands behind it; one with args only with its bracket.
func TestA2TwiceFromTheLeft(t *testing.T) {
	b := term.New()
	mustRead(t, b, "f(a,g(b))")
	checkReads(t, "A2", b,
		reading{"f$", 0, api.ErrTwice, 0},
		reading{"x(f", 0, api.ErrTwice, 2},
		reading{"x(f  $", 0, api.ErrTwice, 2},
		reading{"f(a)$", 0, api.ErrTwice, 0},
		reading{"f(a", 0, api.ErrForm, 3},
		reading{"f(a$", 0, api.ErrForm, 3},
		reading{"f(a,a,a,a,a)", 0, api.ErrRange, 10},
		reading{"f(a,a,g)", 0, api.ErrTwice, 6},
		reading{nest("g", 13, "f"), 0, api.ErrDeep, 26},
		reading{nest("g", 12, "f"), 0, api.ErrTwice, 24},
	)
}

func TestA2NothingStaysOfAnError(t *testing.T) {
	b := term.New()
	mustRead(t, b, "f(a)")
	before := shown(b)
	for _, text := range []string{"g(b,c)$", "g(b,c,f)", "g(a,b,c,d,e)", "x(" + nest("g", 13, "b"), "f(f(f(b)))("} {
		if _, errno, _ := b.Read(text); errno == api.OK {
			t.Errorf("A2: Read(%q) is OK", text)
		}
		if after := shown(b); !slices.Equal(before, after) {
			t.Errorf("A2: Read(%q) left %q", text, after)
		}
	}
	checkReads(t, "A2", b,
		reading{"b(a)", 2, api.OK, 0},
		reading{"g", 3, api.OK, 0},
		reading{"c(a,a)", 4, api.OK, 0},
		reading{"f", 0, api.ErrTwice, 0},
		reading{"f(f(a))", 5, api.OK, 0},
	)
}

// fill reads so many new terms without args.
func fill(t *testing.T, b *term.Bank, count int) {
	t.Helper()
	for i := range count {
		mustRead(t, b, "c"+strconv.Itoa(i))
	}
}

func TestA2Many(t *testing.T) {
	b := term.New()
	fill(t, b, 148)
	checkReads(t, "A2", b,
		reading{"f(f(f(c0)))", 0, api.ErrMany, 0},
		reading{"f(x,y)", 0, api.ErrMany, 0},
		reading{"f(f(f(c0)))$", 0, api.ErrForm, 11},
		reading{"f(f(f(c0,c0)))", 0, api.ErrTwice, 2},
		reading{"f(f(f(c0),c1(c2)))", 0, api.ErrTwice, 10},
		reading{"f(f(c0))", 149, api.OK, 0},
		reading{"f(f(c0))", 149, api.OK, 0},
		reading{"f(c1)", 0, api.ErrMany, 0},
		reading{"x", 0, api.ErrMany, 0},
		reading{"c147", 147, api.OK, 0},
	)
	if b.Size() != 150 || b.Show(149) != "f(f(c0))" || b.Show(150) != "" {
		t.Errorf("A2: %d terms, the last %q", b.Size(), b.Show(149))
	}
}

func TestA2ManyOfOneText(t *testing.T) {
	b := term.New()
	fill(t, b, 140)
	text := "g(x0,x1,g(x2,x3,g(x4,x5,g(x6,x7,x8))))"
	checkRead(t, "A2", b, reading{text, 0, api.ErrMany, 0})
	checkReads(t, "A2: a refused name stays", b, reading{"g", 140, api.OK, 0}, reading{"x0(g)", 141, api.OK, 0})
}

func TestA3Numbers(t *testing.T) {
	b := term.New()
	checkReads(t, "A3", b,
		reading{"f(g(b,a),h(g(b,a)),b)", 4, api.OK, 0},
		reading{"k(g(a,b),c)", 7, api.OK, 0},
		reading{"b", 0, api.OK, 0},
	)
	want := []string{"b", "a", "g(b,a)", "h(g(b,a))", "f(g(b,a),h(g(b,a)),b)", "g(a,b)", "c", "k(g(a,b),c)"}
	if got := shown(b); !slices.Equal(got, want) {
		t.Errorf("A3: %q, want %q", got, want)
	}
	if b.Size() != len(want) {
		t.Errorf("A3: Size() = %d", b.Size())
	}
}

func TestA3Term(t *testing.T) {
	b := term.New()
	mustRead(t, b, "k1(a,f(a),a,b)")
	for n, want := range []api.Term{{Name: "a"}, {Name: "f", Args: []int{0}}, {Name: "b"}, {Name: "k1", Args: []int{0, 1, 0, 2}}} {
		got, ok := b.Term(n)
		if !ok || got.Name != want.Name || !slices.Equal(got.Args, want.Args) {
			t.Errorf("A3: Term(%d) = %v, %t, want %v", n, got, ok, want)
		}
	}
}

func TestA3NoTerm(t *testing.T) {
	b, empty := term.New(), term.New()
	mustRead(t, b, "f(a)")
	for _, n := range []int{-1, 2, 150, math.MinInt, math.MaxInt} {
		if x, ok := b.Term(n); ok || x.Name != "" || x.Args != nil {
			t.Errorf("A3: Term(%d) = %v, %t", n, x, ok)
		}
		if text := b.Show(n); text != "" {
			t.Errorf("A3: Show(%d) = %q", n, text)
		}
	}
	if _, ok := empty.Term(0); ok || empty.Show(0) != "" {
		t.Error("A3: an empty bank has a term")
	}
}

func TestA3AnswersAreNewMemory(t *testing.T) {
	b := term.New()
	n := mustRead(t, b, "f(a,b)")
	x, _ := b.Term(n)
	x.Args[0] = 99
	_ = append(x.Args[:1], 98)
	if y, _ := b.Term(n); !slices.Equal(y.Args, []int{0, 1}) || b.Show(n) != "f(a,b)" {
		t.Errorf("G4: %v, %q", y, b.Show(n))
	}
}
