package logic_test

import (
	"math/rand"
	"reflect"
	"runtime/debug"
	"slices"
	"testing"

	"equate/api"
	"equate/logic"
	"equate/sat"
	"equate/term"
)

// someForm is a formula of a bank with terms 0 to 3.
func someForm(r *rand.Rand, size int) api.Form {
	if size <= 1 {
		return eq(r.Intn(4), r.Intn(4))
	}
	if r.Intn(4) == 0 {
		return op(api.Not, someForm(r, size-1))
	}
	left := 1 + r.Intn(size-1)
	return op(api.And+r.Intn(3), someForm(r, left), someForm(r, size-left))
}

// count tells how many Forms there are in f, and how many are no Equals.
func count(f api.Form) (int, int) {
	if f.Op == api.Equal {
		return 1, 0
	}
	all, signs := 1, 1
	for _, kid := range f.Kids {
		a, s := count(kid)
		all, signs = all+a, signs+s
	}
	return all, signs
}

// isTrue is Eval once more, for values of the atoms.
func isTrue(f api.Form, values map[api.Pair]bool) bool {
	switch f.Op {
	case api.Not:
		return !isTrue(f.Kids[0], values)
	case api.And:
		return isTrue(f.Kids[0], values) && isTrue(f.Kids[1], values)
	case api.Or:
		return isTrue(f.Kids[0], values) || isTrue(f.Kids[1], values)
	case api.Implies:
		return !isTrue(f.Kids[0], values) || isTrue(f.Kids[1], values)
	}
	return values[f.Pair]
}

func checkSizes(t *testing.T, f api.Form, clauses [][]int, n int) {
	t.Helper()
	all, signs := count(f)
	if len(clauses) > 4*signs+2 {
		t.Errorf("F4: %v: %d clauses for %d signs", f, len(clauses), signs)
	}
	if n > all+1 || n < len(logic.Atoms(f)) {
		t.Errorf("F4: %v: %d variables for %d Forms", f, n, all)
	}
	for _, c := range clauses {
		for _, x := range c {
			if x == 0 || x > n || x < -n {
				t.Errorf("F4: %v: literal %d of %d", f, x, n)
			}
		}
	}
}

// checkClauses tries all values of the atoms.
func checkClauses(t *testing.T, f api.Form) {
	t.Helper()
	clauses, n := logic.Clauses(f)
	checkSizes(t, f, clauses, n)
	atoms := logic.Atoms(f)
	for bits := range 1 << len(atoms) {
		all := slices.Clone(clauses)
		values := map[api.Pair]bool{}
		for i, p := range atoms {
			values[p] = bits>>i&1 == 1
			if values[p] {
				all = append(all, []int{i + 1})
			} else {
				all = append(all, []int{-i - 1})
			}
		}
		_, ok, errno := sat.Solve(n, all)
		if errno != api.OK || ok != isTrue(f, values) {
			t.Fatalf("F4: %v with %v: %t, %d, of %v", f, values, ok, errno, clauses)
		}
	}
}

func TestF4Clauses(t *testing.T) {
	for _, text := range []string{
		"a=b", "a!=b", "!!a=b", "a=b&c=d", "a=b|c=d", "a=b->c=d", "a=b&a=b", "a=b|a=b", "a=b->a=b", "a=b&a!=b", "a=b|a!=b", "a=b->a!=b",
		"a=b&b=a", "!(a=b&c=d)", "!(a=b|c=d)", "!(a=b->c=d)", "(a=b->c=d)->a=b", "!!!(a=b&!(c=d|!!a=c))", "a=a", "a!=a",
	} {
		checkClauses(t, mustParse(t, term.New(), text))
	}
}

func TestF4Many(t *testing.T) {
	r := rand.New(rand.NewSource(3))
	for range 1500 {
		f := someForm(r, 1+r.Intn(14))
		if len(logic.Atoms(f)) <= 7 {
			checkClauses(t, f)
		}
	}
}

func TestF3EvalMany(t *testing.T) {
	r := rand.New(rand.NewSource(4))
	for range 3000 {
		f := someForm(r, 1+r.Intn(20))
		classes := []int{r.Intn(3), r.Intn(3), r.Intn(3), r.Intn(3)}
		values := map[api.Pair]bool{}
		for a := range 4 {
			for b := range 4 {
				values[api.Pair{A: a, B: b}] = classes[a] == classes[b]
			}
		}
		if logic.Eval(f, classes) != isTrue(f, values) {
			t.Fatalf("F3: Eval(%v, %v)", f, classes)
		}
	}
}

// strangeForm is some Form with Ops and numbers of Kids of all kinds, so that Equals have Kids, too.
func strangeForm(r *rand.Rand, depth int) api.Form {
	f := api.Form{Op: r.Intn(7) - 1, Pair: api.Pair{A: r.Intn(5) - 1, B: r.Intn(5) - 1}}
	told := map[int]int{api.Not: 1, api.And: 2, api.Or: 2, api.Implies: 2}[f.Op]
	if r.Intn(6) == 0 {
		told = r.Intn(4)
	}
	for range told {
		if depth == 0 {
			f.Kids = append(f.Kids, eq(0, 0))
		} else {
			f.Kids = append(f.Kids, strangeForm(r, depth-1))
		}
	}
	return f
}

// strangeTrue is F3's rule of any Form, as it is said.
func strangeTrue(f api.Form, classes []int) bool {
	var kids []bool
	for _, kid := range f.Kids {
		kids = append(kids, strangeTrue(kid, classes))
	}
	inside := func(n int) bool { return n >= 0 && n < len(classes) }
	switch [2]int{f.Op, len(kids)} {
	case [2]int{api.Equal, 0}:
		return inside(f.Pair.A) && inside(f.Pair.B) && classes[f.Pair.A] == classes[f.Pair.B]
	case [2]int{api.Not, 1}:
		return !kids[0]
	case [2]int{api.And, 2}:
		return kids[0] && kids[1]
	case [2]int{api.Or, 2}:
		return kids[0] || kids[1]
	case [2]int{api.Implies, 2}:
		return !kids[0] || kids[1]
	}
	return false
}

// TestF3EvalManyStrange also asks the clauses, which are not promised of such Forms, whether they say what Eval says.
func TestF3EvalManyStrange(t *testing.T) {
	r := rand.New(rand.NewSource(5))
	classes := []int{0, 0, 2}
	trues := 0
	for range 5000 {
		f := strangeForm(r, 4)
		want := strangeTrue(f, classes)
		if logic.Eval(f, classes) != want {
			t.Fatalf("F3: Eval(%v) = %t", f, !want)
		}
		clauses, n := logic.Clauses(f)
		for i, p := range logic.Atoms(f) {
			value := i + 1
			if !strangeTrue(eq(p.A, p.B), classes) {
				value = -value
			}
			clauses = append(clauses, []int{value})
		}
		if _, ok, errno := sat.Solve(n, clauses); ok != want || errno != api.OK {
			t.Fatalf("F4: the clauses of %v: %t, %d", f, ok, errno)
		}
		if want {
			trues++
		}
	}
	if trues < 500 || trues > 4500 {
		t.Errorf("%d of 5000 are true", trues)
	}
}

func TestF4AnswersAreNewMemory(t *testing.T) {
	f := op(api.And, op(api.Or, eq(0, 1), eq(1, 2)), ne(0, 2))
	want, _ := logic.Clauses(f)
	got, _ := logic.Clauses(f)
	for i := range got {
		_ = append(got[i], 99)
		if !reflect.DeepEqual(got, want) {
			t.Fatalf("G4: the clause behind number %d is %v", i, got)
		}
	}
	for i := range got {
		for j := range got[i] {
			got[i][j] = 77
		}
	}
	if again, _ := logic.Clauses(f); !reflect.DeepEqual(again, want) {
		t.Errorf("G4: %v, want %v", again, want)
	}
}

func TestFormsStayAsTheyAre(t *testing.T) {
	b := term.New()
	mustRead(t, b, "a", "b", "c", "d")
	classes := []int{0, 0, 2, 2}
	f, same := op(api.And, op(api.Not, eq(0, 1)), op(7, eq(2, 3), eq(0, 0))), op(api.And, op(api.Not, eq(0, 1)), op(7, eq(2, 3), eq(0, 0)))
	atoms := logic.Atoms(f)
	logic.Show(b, f)
	logic.Eval(f, classes)
	logic.Clauses(f)
	atoms[0] = api.Pair{A: 9, B: 9}
	if !reflect.DeepEqual(f, same) || !slices.Equal(classes, []int{0, 0, 2, 2}) {
		t.Errorf("G4: %v, %v", f, classes)
	}
}

// deepForm has so many signs, one within the other. Each kind is a chain of its own.
func deepForm(sign int, times int, second bool) api.Form {
	f := eq(0, 1)
	for i := range times {
		kids := []api.Form{f}
		if sign != api.Not && second {
			kids = []api.Form{eq(i%3, 0), f}
		} else if sign != api.Not {
			kids = []api.Form{f, eq(0, i%3)}
		}
		f = api.Form{Op: sign, Kids: kids}
	}
	return f
}

// TestDeepForms lets calls have little room, since no room is enough for all Forms.
func TestDeepForms(t *testing.T) {
	const times = 100000
	defer debug.SetMaxStack(debug.SetMaxStack(4 << 20))
	b := term.New()
	mustRead(t, b, "a", "b", "c")
	for _, sign := range []int{api.Not, api.And, api.Or, api.Implies, 9} {
		for _, second := range []bool{false, true} {
			f := deepForm(sign, times, second)
			if got := logic.Eval(f, []int{0, 0, 0}); got != (sign != 9) {
				t.Errorf("F3: Eval of a deep form with %d is %t", sign, got)
			}
			if got := len(logic.Atoms(f)); got > 4 {
				t.Errorf("F3: %d atoms", got)
			}
			if text := logic.Show(b, f); len(text) < times {
				t.Errorf("F2: %d bytes", len(text))
			}
			if clauses, n := logic.Clauses(f); len(clauses) > 4*times+2 || n > 2*times+2 {
				t.Errorf("F4: %d clauses, %d variables", len(clauses), n)
			}
		}
	}
}

func TestWideForm(t *testing.T) {
	f := api.Form{Op: 9}
	for i := range 200000 {
		f.Kids = append(f.Kids, eq(i, i%7))
	}
	if got := len(logic.Atoms(f)); got != 200000 {
		t.Errorf("F3: %d atoms", got)
	}
}
