package close_test

import (
	"math"
	"slices"
	"strings"
	"testing"

	"equate/api"
	"equate/close"
	"equate/term"
)

// bank reads terms, which a blank divides.
func bank(t *testing.T, terms string) *term.Bank {
	t.Helper()
	b := term.New()
	for _, text := range strings.Fields(terms) {
		if _, errno, place := b.Read(text); errno != api.OK {
			t.Fatalf("Read(%q) = %d at %d", text, errno, place)
		}
	}
	return b
}

// numbers tells the numbers of terms that are in the bank already.
func numbers(t *testing.T, b *term.Bank, terms string) []int {
	t.Helper()
	size := b.Size()
	var all []int
	for _, text := range strings.Fields(terms) {
		n, errno, place := b.Read(text)
		if errno != api.OK || b.Size() != size {
			t.Fatalf("%q is no term of the bank: %d at %d", text, errno, place)
		}
		all = append(all, n)
	}
	return all
}

// tell merges pairs, each of which is two terms and a blank.
func tell(t *testing.T, b *term.Bank, c *close.Closure, pairs ...string) {
	t.Helper()
	for _, pair := range pairs {
		p := numbers(t, b, pair)
		if errno := c.Merge(p[0], p[1]); errno != api.OK {
			t.Fatalf("D2: Merge of %s = %d", pair, errno)
		}
	}
}

// leasts tells of each term of the bank the least one of its class. Terms that are in none are by themselves.
func leasts(t *testing.T, b *term.Bank, classes ...string) []int {
	t.Helper()
	all := make([]int, b.Size())
	for n := range all {
		all[n] = n
	}
	for _, class := range classes {
		members := numbers(t, b, class)
		for _, n := range members {
			all[n] = slices.Min(members)
		}
	}
	return all
}

func checkClasses(t *testing.T, promise string, c *close.Closure, want []int) {
	t.Helper()
	if got := c.Classes(); !slices.Equal(got, want) {
		t.Fatalf("%s: Classes() = %v, want %v", promise, got, want)
	}
	for a := range want {
		for b := range want {
			if c.Same(a, b) != (want[a] == want[b]) {
				t.Fatalf("%s: Same(%d, %d) = %t of %v", promise, a, b, c.Same(a, b), want)
			}
		}
	}
}

func TestD1Closure(t *testing.T) {
	for _, c := range []struct {
		terms   string
		pairs   []string
		classes []string
	}{
		{"a b c d", []string{"d c", "b d"}, []string{"b c d"}},
		{"a b c d", []string{"d c", "b a", "a c"}, []string{"a b c d"}},
		{"f(a) f(b)", []string{"a b"}, []string{"a b", "f(a) f(b)"}},
		{"f(a) f(b)", []string{"f(a) f(b)"}, []string{"f(a) f(b)"}},
		{"f(a) g(b)", []string{"a b"}, []string{"a b"}},
		{"f(a) h(a)", []string{"a a"}, nil},
		{"f(f(f(f(f(a)))))", []string{"f(f(f(a))) a", "f(f(f(f(f(a))))) a"},
			[]string{"a f(a) f(f(a)) f(f(f(a))) f(f(f(f(a)))) f(f(f(f(f(a)))))"}},
		{"f(f(f(f(a))))", []string{"f(f(f(f(a)))) a", "f(f(a)) a"},
			[]string{"a f(f(a)) f(f(f(f(a))))", "f(a) f(f(f(a)))"}},
		{"f(f(f(a)))", []string{"f(a) a"}, []string{"a f(a) f(f(a)) f(f(f(a)))"}},
		{"g(a,b) g(b,a)", nil, nil},
		{"g(a,b) g(b,a)", []string{"b a"}, []string{"a b", "g(a,b) g(b,a)"}},
		{"g(a,b) g(c,b) g(a,d) g(c,d)", []string{"a c"}, []string{"a c", "g(a,b) g(c,b)", "g(a,d) g(c,d)"}},
		{"g(a,b) g(c,b) g(a,d) g(c,d)", []string{"a c", "d b"},
			[]string{"a c", "b d", "g(a,b) g(c,b) g(a,d) g(c,d)"}},
		{"g(a,b) g(c,d)", []string{"a d", "b c"}, []string{"a d", "b c"}},
		{"k(a,b,c,d) k(a,b,c,a)", []string{"a b", "b c"}, []string{"a b c"}},
		{"k(a,b,c,d) k(a,b,c,a)", []string{"a d"}, []string{"a d", "k(a,b,c,d) k(a,b,c,a)"}},
		{"k(b,b,b,b) k(a,b,b,b) k(b,b,a,b)", []string{"b a"},
			[]string{"a b", "k(b,b,b,b) k(a,b,b,b) k(b,b,a,b)"}},
		{"h(f(a)) h(f(b)) f(h(a))", []string{"a b"}, []string{"a b", "f(a) f(b)", "h(f(a)) h(f(b))"}},
		{"h(f(a)) h(f(b)) f(h(a))", []string{"a b", "f(b) h(a)"},
			[]string{"a b", "f(a) f(b) h(a)", "h(f(a)) h(f(b))"}},
		{"f(a) f(b)", []string{"f(a) b", "f(b) a"}, []string{"f(a) b", "f(b) a"}},
	} {
		b := bank(t, c.terms)
		k := close.New(b)
		tell(t, b, k, c.pairs...)
		checkClasses(t, "D1: "+c.terms, k, leasts(t, b, c.classes...))
	}
}

func TestD1TermsOfTheBankAtNew(t *testing.T) {
	b := bank(t, "f(a) f(b)")
	c := close.New(b)
	before := b.Size()
	other := bank(t, "a b f(a)")
	tell(t, b, c, "a b")
	late, _, _ := b.Read("f(f(a))")
	if c.Merge(late, 0) != api.ErrNone || c.Merge(0, late) != api.ErrNone || c.Same(late, late) || c.Mark() != 1 {
		t.Error("D1: a term that came behind New is a term")
	}
	if got := c.Classes(); len(got) != before {
		t.Errorf("D1: Classes() = %v", got)
	}
	if !c.Undo(0) || c.Same(0, 2) || len(c.Classes()) != before {
		t.Error("D1: Undo behind a bank that has grown")
	}
	if got := close.New(b).Classes(); len(got) != b.Size() || b.Size() <= before {
		t.Errorf("D1: a later Closure has %v", got)
	}
	checkClasses(t, "D1: another bank", close.New(other), []int{0, 1, 2})
}

func TestD2New(t *testing.T) {
	empty := close.New(term.New())
	if len(empty.Classes()) != 0 || empty.Mark() != 0 || empty.Same(0, 0) || empty.Merge(0, 0) != api.ErrNone {
		t.Error("D2: of a bank without terms")
	}
	if !empty.Undo(0) || empty.Undo(1) || empty.Undo(-1) {
		t.Error("D3: Undo of a bank without terms")
	}
	b := bank(t, "g(a,b) g(b,a) f(g(a,b))")
	one, two := close.New(b), close.New(b)
	checkClasses(t, "D2: of no pairs", one, leasts(t, b))
	if one.Mark() != 0 {
		t.Errorf("D3: Mark() = %d of no pairs", one.Mark())
	}
	tell(t, b, one, "a b")
	checkClasses(t, "D2: two of one bank", two, leasts(t, b))
	if two.Mark() != 0 {
		t.Error("D2: two of one bank share what was told")
	}
	tell(t, b, two, "f(g(a,b)) a")
	checkClasses(t, "D2: two of one bank", one, leasts(t, b, "a b", "g(a,b) g(b,a)"))
}

func TestD2NoTerm(t *testing.T) {
	b := bank(t, "f(a) f(b)")
	c := close.New(b)
	tell(t, b, c, "a b")
	want := leasts(t, b, "a b", "f(a) f(b)")
	for _, n := range []int{-1, 4, 5, math.MinInt, math.MaxInt} {
		if c.Merge(n, 0) != api.ErrNone || c.Merge(0, n) != api.ErrNone || c.Merge(n, n) != api.ErrNone {
			t.Errorf("D2: Merge with %d", n)
		}
		if c.Same(n, 0) || c.Same(0, n) || c.Same(n, n) {
			t.Errorf("D2: Same with %d", n)
		}
	}
	checkClasses(t, "D2: numbers that are no terms", c, want)
	if c.Mark() != 1 {
		t.Errorf("D3: Mark() = %d: what was refused counts", c.Mark())
	}
}

func TestD2AnswersAreNewMemory(t *testing.T) {
	b := bank(t, "f(a) f(b)")
	c := close.New(b)
	tell(t, b, c, "a b")
	first := c.Classes()
	for i := range first {
		first[i] = 3
	}
	checkClasses(t, "G4", c, leasts(t, b, "a b", "f(a) f(b)"))
}

func TestD2LeavesTheBank(t *testing.T) {
	b := bank(t, "g(a,b) g(b,a)")
	c := close.New(b)
	tell(t, b, c, "a b", "g(a,b) a")
	for n, want := range []string{"a", "b", "g(a,b)", "g(b,a)"} {
		if b.Show(n) != want || b.Size() != 4 {
			t.Errorf("D2: term %d is %s of %d", n, b.Show(n), b.Size())
		}
	}
}

func TestD3Mark(t *testing.T) {
	b := bank(t, "f(a) f(b) c")
	c := close.New(b)
	for i, pair := range []string{"a b", "a b", "b a", "f(a) f(b)", "c c", "c a"} {
		tell(t, b, c, pair)
		if c.Mark() != i+1 {
			t.Errorf("D3: Mark() = %d behind %d pairs", c.Mark(), i+1)
		}
	}
	if !c.Undo(5) || c.Mark() != 5 || !c.Undo(1) || c.Mark() != 1 {
		t.Errorf("D3: Mark() = %d behind Undo", c.Mark())
	}
	tell(t, b, c, "c f(a)")
	if c.Mark() != 2 {
		t.Errorf("D3: Mark() = %d behind Undo and a pair", c.Mark())
	}
}

func TestD3Undo(t *testing.T) {
	b := bank(t, "f(a) f(b) f(c) g(f(a),c) g(f(b),b)")
	c := close.New(b)
	pairs := []string{"b c", "c b", "f(c) f(a)", "a c", "g(f(a),c) a"}
	states := [][]int{c.Classes()}
	for _, pair := range pairs {
		tell(t, b, c, pair)
		states = append(states, c.Classes())
	}
	checkClasses(t, "D1", c, leasts(t, b, "a b c g(f(a),c) g(f(b),b)", "f(a) f(b) f(c)"))
	for _, mark := range []int{-1, 6, math.MinInt, math.MaxInt} {
		if c.Undo(mark) || c.Mark() != 5 {
			t.Errorf("D3: Undo(%d)", mark)
		}
		checkClasses(t, "D3: a wrong mark", c, states[5])
	}
	for _, mark := range []int{5, 4, 3, 2, 1, 0} {
		if !c.Undo(mark) || c.Mark() != mark {
			t.Errorf("D3: Undo(%d)", mark)
		}
		checkClasses(t, "D3", c, states[mark])
		if c.Undo(mark + 1) {
			t.Errorf("D3: Undo(%d) behind Undo(%d)", mark+1, mark)
		}
	}
	tell(t, b, c, pairs...)
	checkClasses(t, "D3: told once more", c, states[5])
	if !c.Undo(0) || c.Mark() != 0 {
		t.Error("D3: Undo(0)")
	}
	checkClasses(t, "D3: all at once", c, states[0])
}

func TestD3OtherPairsBehindUndo(t *testing.T) {
	b := bank(t, "f(a) f(b) f(c) f(d)")
	c := close.New(b)
	tell(t, b, c, "a b", "b c")
	c.Undo(1)
	tell(t, b, c, "b d")
	checkClasses(t, "D3", c, leasts(t, b, "a b d", "f(a) f(b) f(d)"))
	c.Undo(0)
	tell(t, b, c, "f(d) f(c)", "d b")
	checkClasses(t, "D3", c, leasts(t, b, "b d", "f(b) f(d) f(c)"))
}
