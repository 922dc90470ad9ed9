package decide_test

import (
	"math/rand"
	"strconv"
	"strings"
	"testing"

	"equate/api"
	"equate/decide"
	"equate/term"
)

// filled puts numbers into a text, in place of I, J, K and L.
func filled(text string, numbers ...int) string {
	for i, n := range numbers {
		text = strings.ReplaceAll(text, "IJKL"[i:i+1], strconv.Itoa(n))
	}
	return text
}

// decideLarge decides formulas that are too large for all models to be tried.
func decideLarge(t *testing.T, name string, sat bool, texts []string) {
	t.Helper()
	b := term.New()
	l := mustParse(t, b, texts...)
	a, errno := decide.Decide(b, l)
	if errno != api.OK || a.Sat != sat {
		t.Errorf("J2: %s: %t, %d", name, a.Sat, errno)
		return
	}
	checkAnswer(t, b, l, a, decides(b))
}

// diamonds are a row of terms with two ways from each to the next.
func diamonds(count int) []string {
	var l []string
	for i := range count {
		l = append(l, filled("aI=bI&bI=aJ|aI=cI&cI=aJ", i, i+1))
	}
	return l
}

// A search that learns whole ways would meet each of them: 2^47 here.
func TestJ2Diamonds(t *testing.T) {
	l := diamonds(47)
	decideLarge(t, "diamonds", false, append(l, "a47!=a0"))
	l[20] = "a20=b20|a20=c20"
	decideLarge(t, "diamonds that are open", true, append(l, "a47!=a0"))
	decideLarge(t, "diamonds below names", false, append(diamonds(40), "f(g(a0,x))!=f(g(a40,y))", "x=y|z=x&z=y"))
}

// TestJ2Holes has more items than holes, or as many.
func TestJ2Holes(t *testing.T) {
	for holes := 1; holes <= 7; holes++ {
		var l []string
		for i := range holes + 1 {
			var places []string
			for k := range holes {
				places = append(places, filled("pI=hJ", i, k))
			}
			l = append(l, strings.Join(places, "|"))
			for k := range i {
				l = append(l, filled("f(pI)!=f(pJ)", i, k))
			}
		}
		decideLarge(t, "too many items", false, l)
		decideLarge(t, "as many items as holes", true, l[:len(l)-1-holes])
	}
}

// sums say that the sum of some bits, from the left and from the right, is not the same.
func sums(count int) []string {
	l := []string{"o!=l", "x(o,o)=o", "x(o,l)=l", "x(l,o)=l", "x(l,l)=o", "s0=v0", filled("tI=vI", count-1)}
	for i := range count {
		l = append(l, filled("vI=o|vI=l", i))
	}
	for i := range count - 1 {
		l = append(l, filled("sJ=x(sI,vJ)", i, i+1), filled("tI=x(tJ,vI)", i, i+1))
	}
	return append(l, filled("sI!=t0", count-1))
}

func TestJ2Sums(t *testing.T) {
	l := sums(28)
	decideLarge(t, "sums", false, l)
	l[1] = "x(o,o)=o|x(o,l)=l"
	decideLarge(t, "sums without a rule", true, l)
}

// TestJ2Chain has a core of all formulas.
func TestJ2Chain(t *testing.T) {
	var l []string
	for i := range 149 {
		l = append(l, filled("aI=aJ", i, i+1))
	}
	rand.New(rand.NewSource(3)).Shuffle(len(l), func(i, k int) { l[i], l[k] = l[k], l[i] })
	decideLarge(t, "a chain", true, l)
	decideLarge(t, "a chain that is closed", false, append(l, "a149!=a0"))
}

// someChoices are formulas of two equalities or inequalities each, of terms of so many names.
func someChoices(r *rand.Rand, names int, count int) []string {
	var terms []string
	for i := range names {
		terms = append(terms, filled("aI", i), filled("f(aI)", i), filled("f(f(aI))", i), filled("g(aI,aJ)", i, r.Intn(names)))
	}
	part := func() string {
		return terms[r.Intn(len(terms))] + []string{"=", "!="}[r.Intn(2)] + terms[r.Intn(len(terms))]
	}
	var l []string
	for range count {
		l = append(l, part()+"|"+part())
	}
	return l
}

// Here it hangs on the formulas whether they have a model, so the answer is held against J2 alone.
func TestJ2Choices(t *testing.T) {
	r := rand.New(rand.NewSource(5))
	for _, names := range []int{4, 6, 8, 10, 14, 17, 20, 37} {
		b := term.New()
		l := mustParse(t, b, someChoices(r, names, 115)...)
		a, errno := decide.Decide(b, l)
		if errno != api.OK {
			t.Fatalf("J2: %d", errno)
		}
		checkAnswer(t, b, l, a, decides(b))
	}
}
