package decide_test

import (
	"math/rand"
	"reflect"
	"slices"
	"testing"

	"equate/api"
	"equate/decide"
	"equate/logic"
	"equate/term"
)

func mustParse(t *testing.T, b *term.Bank, texts ...string) []api.Form {
	t.Helper()
	var l []api.Form
	for _, text := range texts {
		f, errno, place := logic.Parse(b, text)
		if errno != api.OK {
			t.Fatalf("Parse(%q): %d at %d", text, errno, place)
		}
		l = append(l, f)
	}
	return l
}

func eq(a int, b int) api.Form { return api.Form{Op: api.Equal, Pair: api.Pair{A: a, B: b}} }

func op(o int, kids ...api.Form) api.Form { return api.Form{Op: o, Kids: kids} }

// isTrue is Eval once more.
func isTrue(f api.Form, classes []int) bool {
	switch f.Op {
	case api.Not:
		return !isTrue(f.Kids[0], classes)
	case api.And:
		return isTrue(f.Kids[0], classes) && isTrue(f.Kids[1], classes)
	case api.Or:
		return isTrue(f.Kids[0], classes) || isTrue(f.Kids[1], classes)
	case api.Implies:
		return !isTrue(f.Kids[0], classes) || isTrue(f.Kids[1], classes)
	}
	return classes[f.Pair.A] == classes[f.Pair.B]
}

func areTrue(l []api.Form, classes []int) bool {
	return !slices.ContainsFunc(l, func(f api.Form) bool { return !isTrue(f, classes) })
}

// isModel holds a list against J1, term by term.
func isModel(b *term.Bank, classes []int) bool {
	if len(classes) != b.Size() {
		return false
	}
	for n, c := range classes {
		if c < 0 || c > n || classes[c] != c {
			return false
		}
		for m := range n {
			if mustBeSame(b, classes, n, m) && classes[m] != c {
				return false
			}
		}
	}
	return true
}

func mustBeSame(b *term.Bank, classes []int, n int, m int) bool {
	x, _ := b.Term(n)
	y, _ := b.Term(m)
	if x.Name != y.Name {
		return false
	}
	for i := range x.Args {
		if classes[x.Args[i]] != classes[y.Args[i]] {
			return false
		}
	}
	return true
}

// models are all models of a bank with few terms.
func models(b *term.Bank) [][]int {
	lists := [][]int{{}}
	for n := range b.Size() {
		var longer [][]int
		for _, list := range lists {
			for c := range n + 1 {
				if c == n || list[c] == c {
					longer = append(longer, append(slices.Clone(list), c))
				}
			}
		}
		lists = longer
	}
	return slices.DeleteFunc(lists, func(list []int) bool { return !isModel(b, list) })
}

func haveModel(all [][]int, l []api.Form) bool {
	return slices.ContainsFunc(all, func(classes []int) bool { return areTrue(l, classes) })
}

func pick(l []api.Form, numbers []int) []api.Form {
	var some []api.Form
	for _, n := range numbers {
		some = append(some, l[n])
	}
	return some
}

func copied(l []api.Form) []api.Form {
	var c []api.Form
	for _, f := range l {
		f.Kids = copied(f.Kids)
		c = append(c, f)
	}
	return c
}

// checkAnswer holds an answer against J2; can tells whether formulas have a model.
func checkAnswer(t *testing.T, b *term.Bank, l []api.Form, a api.Answer, can func([]api.Form) bool) {
	t.Helper()
	if a.Sat {
		if a.Core != nil || !isModel(b, a.Classes) || !areTrue(l, a.Classes) {
			t.Fatalf("J2: %v: %v is no model, or there is a core", l, a)
		}
		return
	}
	if a.Classes != nil || len(a.Core) == 0 {
		t.Fatalf("J2: %v: %v has classes, or no core", l, a)
	}
	for i, n := range a.Core {
		if n < 0 || n >= len(l) || i > 0 && a.Core[i-1] >= n {
			t.Fatalf("J2: %v: the core %v is not rising numbers of formulas", l, a.Core)
		}
		if !can(pick(l, slices.Delete(slices.Clone(a.Core), i, i+1))) {
			t.Fatalf("J2: %v: of the core %v, %d can be left out", l, a.Core, n)
		}
	}
	if can(pick(l, a.Core)) {
		t.Fatalf("J2: %v: the core %v has a model", l, a.Core)
	}
}

// checkAll holds Decide and Follows against all models of the bank.
func checkAll(t *testing.T, b *term.Bank, all [][]int, l []api.Form, f api.Form) {
	t.Helper()
	before := copied(l)
	a, errno := decide.Decide(b, l)
	if want := haveModel(all, l); errno != api.OK || a.Sat != want {
		t.Fatalf("J2: %v: %v, %d; a model: %t", l, a, errno, want)
	}
	checkAnswer(t, b, l, a, func(some []api.Form) bool { return haveModel(all, some) })
	opposite := op(api.Not, f)
	got, errno := decide.Follows(b, l, f)
	if want := !haveModel(all, append(slices.Clone(l), opposite)); errno != api.OK || got != want {
		t.Fatalf("J3: %v follows from %v: %t, %d, not %t", f, l, got, errno, want)
	}
	if a, errno := decide.Decide(b, append(slices.Clone(l), opposite)); errno != api.OK || a.Sat == got {
		t.Fatalf("J4: %v follows from %v: %t; with its opposite: %v, %d", f, l, got, a, errno)
	}
	if !reflect.DeepEqual(before, copied(l)) {
		t.Fatalf("G4: %v became %v", before, l)
	}
}

// someForm is a formula over the first so many terms.
func someForm(r *rand.Rand, terms int, size int) api.Form {
	if size <= 1 {
		return eq(r.Intn(terms), r.Intn(terms))
	}
	if r.Intn(4) == 0 {
		return op(api.Not, someForm(r, terms, size-1))
	}
	left := 1 + r.Intn(size-1)
	return op(api.And+r.Intn(3), someForm(r, terms, left), someForm(r, terms, size-left))
}

func TestJ2Many(t *testing.T) {
	r := rand.New(rand.NewSource(7))
	for _, terms := range []string{"a b c d", "f(a) f(b) c", "f(f(f(a))) f(b)", "g(a,b) g(b,a) g(a,a)", "g(a,f(b)) g(f(b),a)", "h(a,b,c,d) h(b,b,c,c)", "f(g(a)) g(f(a)) b"} {
		b := bank(t, terms)
		all := models(b)
		for range 500 {
			var l []api.Form
			for range r.Intn(9) {
				l = append(l, someForm(r, b.Size(), 1+r.Intn(5)))
			}
			checkAll(t, b, all, l, someForm(r, b.Size(), 1+r.Intn(4)))
		}
	}
}

// Mostly inequalities, of which many are in the core.
func TestJ2ManyUnequal(t *testing.T) {
	r := rand.New(rand.NewSource(8))
	b := bank(t, "f(a) f(b) f(c) d")
	all := models(b)
	for range 1000 {
		var l []api.Form
		for range 4 + r.Intn(12) {
			n := r.Intn(b.Size())
			f := eq(n, (n+1+r.Intn(b.Size()-1))%b.Size())
			switch r.Intn(4) {
			case 0, 1:
				f = op(api.Not, f)
			case 2:
				f = op(api.Or, f, eq(r.Intn(b.Size()), r.Intn(b.Size())))
			}
			l = append(l, f)
		}
		checkAll(t, b, all, l, eq(r.Intn(b.Size()), r.Intn(b.Size())))
	}
}
