package why_test

import (
	"math"
	"math/rand"
	"slices"
	"strconv"
	"strings"
	"testing"

	"equate/api"
	"equate/close"
	"equate/term"
	"equate/why"
)

// bank reads terms, which a blank divides.
func bank(t *testing.T, terms string) *term.Bank {
	t.Helper()
	b := term.New()
	for _, text := range strings.Fields(terms) {
		if _, errno, place := b.Read(text); errno != api.OK {
			t.Fatalf("Read(%q) = %d at %d", text, errno, place)
		}
	}
	return b
}

// closed tells by chapter 3 whether x and y are the same by the pairs with these numbers.
func closed(b *term.Bank, l []api.Pair, numbers []int, x int, y int) bool {
	c := close.New(b)
	for _, n := range numbers {
		c.Merge(l[n].A, l[n].B)
	}
	return c.Same(x, y)
}

func allNumbers(l []api.Pair) []int {
	var all []int
	for n := range l {
		all = append(all, n)
	}
	return all
}

// check holds both calls against what E1 and E2 say of them.
func check(t *testing.T, b *term.Bank, l []api.Pair, x int, y int) []int {
	t.Helper()
	want := closed(b, l, allNumbers(l), x, y)
	if why.Follows(b, l, x, y) != want {
		t.Fatalf("E1: Follows(%v, %d, %d) is not %t", l, x, y, want)
	}
	got, ok := why.Why(b, l, x, y)
	if ok != want || !ok && got != nil {
		t.Fatalf("E2: Why(%v, %d, %d) = %v, %t", l, x, y, got, ok)
	}
	if !ok {
		return nil
	}
	for i, n := range got {
		if n < 0 || n >= len(l) || i > 0 && got[i-1] >= n {
			t.Fatalf("E2: Why(%v, %d, %d) = %v: not rising numbers of pairs", l, x, y, got)
		}
		if closed(b, l, slices.Delete(slices.Clone(got), i, i+1), x, y) {
			t.Fatalf("E2: Why(%v, %d, %d) = %v: %d can be left out", l, x, y, got, n)
		}
	}
	if !closed(b, l, got, x, y) {
		t.Fatalf("E2: Why(%v, %d, %d) = %v: it does not follow", l, x, y, got)
	}
	return got
}

func TestE1Follows(t *testing.T) {
	b := bank(t, "a b c f(a) f(b) g(a,b) g(b,a)") // 0 to 6
	for _, c := range []struct {
		l    []api.Pair
		x, y int
		want bool
	}{
		{nil, 0, 0, true},
		{nil, 0, 1, false},
		{[]api.Pair{}, 6, 6, true},
		{[]api.Pair{{A: 0, B: 1}}, 1, 0, true},
		{[]api.Pair{{A: 0, B: 1}}, 3, 4, true},
		{[]api.Pair{{A: 0, B: 1}}, 5, 6, true},
		{[]api.Pair{{A: 0, B: 1}}, 0, 2, false},
		{[]api.Pair{{A: 3, B: 4}}, 0, 1, false},
		{[]api.Pair{{A: 2, B: 1}, {A: 0, B: 2}}, 4, 3, true},
	} {
		if why.Follows(b, c.l, c.x, c.y) != c.want {
			t.Errorf("E1: Follows(%v, %d, %d) is not %t", c.l, c.x, c.y, c.want)
		}
	}
}

func TestE1NoTerm(t *testing.T) {
	b := bank(t, "f(a) f(b)") // a 0, f(a) 1, b 2, f(b) 3
	for _, n := range []int{-1, 4, math.MinInt, math.MaxInt} {
		l := []api.Pair{{A: n, B: 0}, {A: n, B: 2}, {A: 2, B: n}, {A: n, B: n}}
		if why.Follows(b, l, 0, 2) || why.Follows(b, l, n, n) || why.Follows(b, l, 0, n) || why.Follows(b, l, n, 0) {
			t.Errorf("E1: %d says something", n)
		}
		for _, c := range []api.Pair{{A: 0, B: 2}, {A: n, B: n}, {A: 0, B: n}, {A: n, B: 0}} {
			if k, ok := why.Why(b, l, c.A, c.B); ok || k != nil {
				t.Errorf("E2: %d says something: %v", n, k)
			}
		}
		l = append(l, api.Pair{A: 2, B: 0})
		if k := check(t, b, l, 3, 1); !slices.Equal(k, []int{4}) {
			t.Errorf("E2: behind %d: %v", n, k)
		}
	}
}

func TestE1TermsOfNow(t *testing.T) {
	b := bank(t, "a b")
	l := []api.Pair{{A: 0, B: 1}}
	if why.Follows(b, l, 2, 3) || why.Follows(term.New(), l, 0, 0) {
		t.Error("E1: a term that is not there")
	}
	for _, text := range []string{"f(a)", "f(b)"} {
		b.Read(text)
	}
	if k := check(t, b, l, 2, 3); !slices.Equal(k, []int{0}) {
		t.Errorf("E1, E2: of a bank that has grown: %v", k)
	}
}

func TestE2Why(t *testing.T) {
	b := bank(t, "a b c d f(a) f(b) f(c) g(a,b) g(c,d) f(f(a))") // 0 to 9
	for _, c := range []struct {
		l     []api.Pair
		x, y  int
		wants [][]int
	}{
		{nil, 2, 2, [][]int{{}}},
		{[]api.Pair{{A: 2, B: 2}, {A: 0, B: 1}}, 2, 2, [][]int{{}}},
		{[]api.Pair{{A: 0, B: 1}}, 1, 0, [][]int{{0}}},
		{[]api.Pair{{A: 0, B: 0}, {A: 0, B: 1}, {A: 1, B: 0}}, 0, 1, [][]int{{1}, {2}}},
		{[]api.Pair{{A: 0, B: 1}, {A: 1, B: 2}, {A: 0, B: 2}}, 0, 2, [][]int{{0, 1}, {2}}},
		{[]api.Pair{{A: 0, B: 1}, {A: 1, B: 2}, {A: 3, B: 7}}, 4, 6, [][]int{{0, 1}}},
		{[]api.Pair{{A: 0, B: 2}, {A: 4, B: 9}, {A: 3, B: 1}}, 7, 8, [][]int{{0, 2}}},
		{[]api.Pair{{A: 4, B: 5}, {A: 0, B: 1}}, 5, 4, [][]int{{0}, {1}}},
		{[]api.Pair{{A: 4, B: 0}}, 9, 0, [][]int{{0}}},
		{[]api.Pair{{A: 0, B: 1}, {A: 0, B: 2}, {A: 1, B: 3}, {A: 2, B: 3}}, 0, 3, [][]int{{0, 2}, {1, 3}}},
	} {
		k := check(t, b, c.l, c.x, c.y)
		if !slices.ContainsFunc(c.wants, func(want []int) bool { return slices.Equal(k, want) }) {
			t.Errorf("E2: Why(%v, %d, %d) = %v, want one of %v", c.l, c.x, c.y, k, c.wants)
		}
	}
}

func TestE2SameIsNothing(t *testing.T) {
	b := bank(t, "f(a)")
	if k, ok := why.Why(b, []api.Pair{{A: 0, B: 1}}, 1, 1); k != nil || !ok {
		t.Errorf("E2: %v, %t", k, ok)
	}
}

func TestE2NotASmallestButNoneTooMany(t *testing.T) {
	b := bank(t, "f(f(f(f(f(a)))))")
	l := []api.Pair{{A: 0, B: 3}, {A: 1, B: 4}, {A: 5, B: 0}, {A: 2, B: 5}}
	if k := check(t, b, l, 1, 0); !slices.Equal(k, []int{0, 2}) {
		t.Errorf("E2: %v", k)
	}
}

func TestE2LeavesWhatItIsHanded(t *testing.T) {
	b := bank(t, "f(a) f(b)")
	l := []api.Pair{{A: 9, B: 0}, {A: 3, B: 1}, {A: 0, B: 2}}
	was := slices.Clone(l)
	first, _ := why.Why(b, l, 1, 3)
	if !slices.Equal(l, was) || b.Size() != 4 {
		t.Errorf("G4: %v", l)
	}
	first[0] = 7
	check(t, b, l, 1, 3)
}

func TestManyLists(t *testing.T) {
	r := rand.New(rand.NewSource(5))
	b := bank(t, "f(a) f(b) f(c) f(f(a)) f(f(b)) g(a,b) g(b,a) g(f(a),c) g(c,f(b)) f(g(a,b)) f(g(b,a)) d e")
	for range 4000 {
		l := make([]api.Pair, r.Intn(14))
		for i := range l {
			l[i] = api.Pair{A: r.Intn(b.Size()+2) - 1, B: r.Intn(b.Size()+2) - 1}
		}
		check(t, b, l, r.Intn(b.Size()+2)-1, r.Intn(b.Size()+2)-1)
	}
}

func TestE2Chain(t *testing.T) {
	b := term.New()
	var l []api.Pair
	for n := range 150 {
		b.Read("c" + strconv.Itoa(n))
		if n > 0 {
			l = append(l, api.Pair{A: n, B: 0}, api.Pair{A: n - 1, B: n})
		}
	}
	if b.Size() != 150 {
		t.Fatalf("%d terms", b.Size())
	}
	check(t, b, l, 0, 149)
	slices.Reverse(l)
	check(t, b, l, 149, 0)
	var chain []api.Pair
	for n := range 149 {
		chain = append(chain, api.Pair{A: n + 1, B: n})
	}
	if k := check(t, b, chain, 149, 0); len(k) != 149 {
		t.Errorf("E2: of a chain of 149 only %d are needed", len(k))
	}
}

func TestLongLists(t *testing.T) {
	b := bank(t, "f(a) f(b) f(c)") // a 0, f(a) 1, b 2, f(b) 3, c 4, f(c) 5
	l := make([]api.Pair, 1000000)
	for i := range l {
		l[i] = api.Pair{A: i % 7, B: i % 7}
	}
	if why.Follows(b, l, 1, 5) {
		t.Error("E1: of pairs that say nothing")
	}
	l[300000], l[500000] = api.Pair{A: 0, B: 2}, api.Pair{A: 2, B: 0}
	l[999999] = api.Pair{A: 4, B: 2}
	k, ok := why.Why(b, l, 1, 5)
	if !ok || len(k) != 2 || k[0] != 300000 && k[0] != 500000 || k[1] != 999999 {
		t.Errorf("E2: %v", k)
	}
}
