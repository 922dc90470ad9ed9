package decide

import (
	"math/rand"
	"slices"
	"testing"

	"equate/api"
	"equate/close"
	"equate/logic"
	"equate/term"
)

func bankOf(texts ...string) *term.Bank {
	b := term.New()
	for _, text := range texts {
		b.Read(text)
	}
	return b
}

// isValid tells whether a step holds in all models of the bank: it goes over a term between, or from args to terms.
func isValid(b *term.Bank, s step) bool {
	c := close.New(b)
	for _, a := range s.premises {
		c.Merge(a.A, a.B)
	}
	return c.Same(s.conclusion.A, s.conclusion.B)
}

// reaches tells whether steps lead from pairs to a goal.
func reaches(told []api.Pair, steps []step, goal api.Pair) bool {
	known := slices.Clone(told)
	for count := -1; count < len(known); {
		count = len(known)
		for _, s := range steps {
			if !slices.ContainsFunc(s.premises[:], func(a api.Pair) bool { return a.A != a.B && !slices.Contains(known, a) }) {
				known = addPairs(known, s.conclusion)
			}
		}
	}
	return slices.Contains(known, goal)
}

func TestSteps(t *testing.T) {
	b := bankOf("f(f(f(f(a))))", "f(f(b))", "g(a,b)", "g(b,a)", "g(f(a),f(b))", "h(g(a,b),a,b)", "h(g(b,a),b,a)", "c", "d")
	p := newProblem(b)
	r := rand.New(rand.NewSource(1))
	for range 2000 {
		var told []api.Pair
		c := close.New(b)
		for range r.Intn(8) {
			a := ordered(r.Intn(b.Size()), r.Intn(b.Size()))
			told = append(told, a)
			c.Merge(a.A, a.B)
		}
		proof := newProof(p.terms, told)
		for x := range b.Size() {
			for y := range x {
				if !c.Same(x, y) {
					continue
				}
				steps := proof.steps(ordered(x, y))
				if slices.ContainsFunc(steps, func(s step) bool { return !isValid(b, s) }) {
					t.Fatalf("%v: a step of %v is wrong", told, steps)
				}
				if !reaches(told, steps, ordered(x, y)) {
					t.Fatalf("%v: %v do not lead to %d %d", told, steps, y, x)
				}
			}
		}
	}
}

// Without room for a variable, whole ways are learned instead of steps: the answers are the same.
func TestWithoutRoom(t *testing.T) {
	r := rand.New(rand.NewSource(2))
	b := bankOf("f(f(a))", "f(f(b))", "f(c)", "g(a,b)", "g(b,c)", "g(f(a),f(b))", "g(f(b),f(c))")
	whole := 0
	for range 300 {
		var l []api.Form
		for range 12 + r.Intn(30) {
			l = append(l, api.Form{Op: api.Or, Kids: []api.Form{someAtom(r, b.Size()), someAtom(r, b.Size())}})
		}
		free, full := newProblem(b, l...), newProblem(b, l...)
		full.count = mostVariables
		_, want := free.model(free.all()...)
		classes, got := full.model(full.all()...)
		if got != want || got && full.firstFalse(classes) >= 0 {
			t.Fatalf("%v: %v, %t, not %t", l, classes, got, want)
		}
		if full.count != mostVariables {
			t.Fatalf("%d variables", full.count)
		}
		for _, lemma := range full.lemmas {
			if len(lemma) > 3 {
				whole++
			}
		}
	}
	if whole == 0 {
		t.Error("no lemma is longer than a step")
	}
}

func someAtom(r *rand.Rand, terms int) api.Form {
	f := api.Form{Op: api.Equal, Pair: api.Pair{A: r.Intn(terms), B: r.Intn(terms)}}
	if r.Intn(2) == 0 {
		return api.Form{Op: api.Not, Kids: []api.Form{f}}
	}
	return f
}

// Each lemma is true in all models, whatever the formulas are.
func TestLemmas(t *testing.T) {
	b := term.New()
	var l []api.Form
	for _, text := range []string{"a=b&b=c|a=d&d=c", "f(a)!=f(c)|g(a,f(b))!=g(c,f(b))", "x=y|x=f(a)", "f(x)!=f(y)|a=c", "a=a"} {
		f, errno, _ := logic.Parse(b, text)
		if errno != api.OK {
			t.Fatal(text)
		}
		l = append(l, f)
	}
	p := newProblem(b, l...)
	p.model(p.all()...)
	if len(p.lemmas) < 2 {
		t.Errorf("%d lemmas", len(p.lemmas))
	}
	pairs := map[int]api.Pair{}
	for a, x := range p.variables {
		pairs[x] = a
	}
	for _, lemma := range p.lemmas {
		c := close.New(b)
		for _, x := range lemma[1:] {
			c.Merge(pairs[-x].A, pairs[-x].B)
		}
		if a := pairs[lemma[0]]; !c.Same(a.A, a.B) {
			t.Errorf("%v is no lemma", lemma)
		}
	}
}
