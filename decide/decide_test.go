package decide_test

import (
	"math"
	"reflect"
	"slices"
	"strings"
	"testing"

	"equate/api"
	"equate/decide"
	"equate/term"
)

// bank reads terms, which a blank divides.
func bank(t *testing.T, terms string) *term.Bank {
	t.Helper()
	b := term.New()
	for _, text := range strings.Fields(terms) {
		if _, errno, place := b.Read(text); errno != api.OK {
			t.Fatalf("Read(%q) = %d at %d", text, errno, place)
		}
	}
	return b
}

func decides(b *term.Bank) func([]api.Form) bool {
	return func(l []api.Form) bool {
		a, _ := decide.Decide(b, l)
		return a.Sat
	}
}

func TestJ2Decide(t *testing.T) {
	for _, c := range []struct {
		l    []string
		sat  bool
		core []int // nil, if there are several to choose from
	}{
		{nil, true, nil},
		{[]string{"a=a"}, true, nil},
		{[]string{"a!=a"}, false, []int{0}},
		{[]string{"a=b", "b=a", "c!=d", "b!=a"}, false, nil},
		{[]string{"x=y", "y!=x", "x=y", "y!=x"}, false, nil},
		{[]string{"a=b", "c=d", "b!=a"}, false, []int{0, 2}},
		{[]string{"a=b", "b=c", "c=d", "e=b", "d!=a"}, false, []int{0, 1, 2, 4}},
		{[]string{"f(a)=a", "f(f(a))!=a"}, false, []int{0, 1}},
		{[]string{"f(f(f(a)))=a", "f(f(f(f(f(a)))))=a", "a!=f(a)"}, false, []int{0, 1, 2}},
		{[]string{"a=b", "g(a,c)!=g(b,d)", "x=y", "c=d"}, false, []int{0, 1, 3}},
		{[]string{"h(a,b,c,d)!=h(e,b,c,d)", "d=c", "a=e"}, false, []int{0, 2}},
		{[]string{"a=b|a=c", "f(a)!=f(b)", "b=c", "f(c)!=f(a)"}, false, nil},
		{[]string{"a=b|a=c", "f(a)!=f(b)", "b!=c", "f(c)=f(a)"}, true, nil},
		{[]string{"!(a=b->b=a)"}, false, []int{0}},
		{[]string{"a=b&a!=b|c=d&c!=d"}, false, []int{0}},
		{[]string{"!!a=b", "!!!b=a"}, false, []int{0, 1}},
		{[]string{"a=b->c=d", "a=b", "f(c)!=f(d)"}, false, []int{0, 1, 2}},
		{[]string{"a=b->c=d", "a=b", "f(c)=f(d)"}, true, nil},
		{[]string{"a!=b", "b!=c", "c!=a", "d=a|d=b|d=c"}, true, nil},
	} {
		b := term.New()
		l := mustParse(t, b, c.l...)
		a, errno := decide.Decide(b, l)
		if errno != api.OK || a.Sat != c.sat {
			t.Fatalf("J2: %q: %v, %d", c.l, a, errno)
		}
		checkAnswer(t, b, l, a, decides(b))
		if c.core != nil && !slices.Equal(a.Core, c.core) {
			t.Errorf("J2: %q: the core is %v, not %v", c.l, a.Core, c.core)
		}
	}
}

func TestJ2NoTerms(t *testing.T) {
	a, errno := decide.Decide(term.New(), nil)
	if errno != api.OK || !a.Sat || len(a.Classes) != 0 || a.Core != nil {
		t.Errorf("J2: of nothing: %v, %d", a, errno)
	}
}

// The model has all terms of the bank, and those that are in no formula are closed under equal args, too.
func TestJ1OtherTerms(t *testing.T) {
	b := bank(t, "f(a) f(b) g(f(a),b) g(f(b),a)")
	a, errno := decide.Decide(b, mustParse(t, b, "a=b"))
	if errno != api.OK || !a.Sat || !isModel(b, a.Classes) || a.Classes[1] != a.Classes[3] || a.Classes[4] != a.Classes[5] {
		t.Errorf("J1: %v, %d", a, errno)
	}
}

func TestJ3Follows(t *testing.T) {
	for _, c := range []struct {
		l    []string
		f    string
		want bool
	}{
		{nil, "a=b", false},
		{nil, "a=a", true},
		{nil, "a!=a", false},
		{nil, "a=b->f(a)=f(b)", true},
		{nil, "f(a)=f(b)->a=b", false},
		{nil, "a=b|a!=b", true},
		{[]string{"a!=a"}, "a=b", true},
		{[]string{"a=b"}, "b=a", true},
		{[]string{"a=b|a=c", "f(a)!=f(b)"}, "a=c", true},
		{[]string{"a=b|a=c", "f(a)!=f(b)"}, "f(c)=f(a)", true},
		{[]string{"a=b|a=c", "f(a)!=f(b)"}, "b=c", false},
		{[]string{"a=b|a=c", "f(a)!=f(b)"}, "b!=c", true},
		{[]string{"f(f(f(a)))=a", "f(f(f(f(f(a)))))=a"}, "f(a)=a", true},
		{[]string{"f(f(f(a)))=a", "f(f(f(f(a))))=f(a)"}, "f(a)=a", false},
		{[]string{"a=b|c=d"}, "c=d|a=b", true},
		{[]string{"a=b|c=d"}, "a=b", false},
		{[]string{"a=b", "c=d"}, "g(a,c)=g(b,d)&g(c,a)=g(d,b)", true},
		{[]string{"a=b", "c=d"}, "g(a,c)=g(b,d)&g(c,a)=g(b,d)", false},
	} {
		b := term.New()
		l, f := mustParse(t, b, c.l...), mustParse(t, b, c.f)[0]
		if got, errno := decide.Follows(b, l, f); errno != api.OK || got != c.want {
			t.Errorf("J3: %q follows from %q: %t, %d", c.f, c.l, got, errno)
		}
	}
}

// wrongForms are no formulas of a bank with the terms 0 and 1.
func wrongForms() []api.Form {
	e := eq(0, 1)
	placed := func(o int, kids ...api.Form) api.Form {
		return api.Form{Op: o, Pair: api.Pair{B: 1}, Kids: kids}
	}
	l := []api.Form{
		eq(0, 2), eq(2, 0), eq(-1, 0), eq(0, -1), eq(math.MinInt, 1), eq(1, math.MaxInt),
		op(api.Equal, e), {Op: api.Equal, Pair: api.Pair{B: 1}, Kids: []api.Form{e, e}},
		op(api.Not), op(api.Not, e, e), op(api.And), op(api.And, e), op(api.And, e, e, e),
		op(api.Or), op(api.Or, e), op(api.Or, e, e, e), op(api.Implies), op(api.Implies, e), op(api.Implies, e, e, e),
		placed(api.Not, e), placed(api.And, e, e), placed(api.Or, e, e), placed(api.Implies, e, e),
		op(5), op(5, e, e), op(-1, e), op(math.MaxInt), op(math.MinInt, e, e),
	}
	for _, f := range slices.Clone(l) {
		l = append(l, op(api.Not, f), op(api.And, e, f), op(api.Or, op(api.Not, f), e), op(api.Implies, e, op(api.And, e, f)))
	}
	return l
}

func checkErrors(t *testing.T, b *term.Bank, l []api.Form, want api.Errno) {
	t.Helper()
	if a, errno := decide.Decide(b, l); errno != want || !reflect.DeepEqual(a, api.Answer{}) {
		t.Errorf("J2: %.200v: %v, %d, not %d", l, a, errno, want)
	}
	for i, f := range l {
		rest := slices.Delete(slices.Clone(l), i, i+1)
		if ok, errno := decide.Follows(b, rest, f); errno != want || ok {
			t.Errorf("J3: %.200v from %.200v: %t, %d, not %d", f, rest, ok, errno, want)
		}
	}
}

func TestJ2WrongForms(t *testing.T) {
	b := bank(t, "a b")
	for _, f := range wrongForms() {
		checkErrors(t, b, []api.Form{f}, api.ErrNone)
		checkErrors(t, b, []api.Form{eq(0, 1), f}, api.ErrNone)
		checkErrors(t, b, []api.Form{f, op(api.Not, eq(0, 0)), eq(1, 1)}, api.ErrNone)
	}
	checkErrors(t, term.New(), []api.Form{eq(0, 0)}, api.ErrNone)
}

func repeated(f api.Form, count int) []api.Form {
	return slices.Repeat([]api.Form{f}, count)
}

// nots is a Form below so many others.
func nots(f api.Form, count int) api.Form {
	for range count {
		f = op(api.Not, f)
	}
	return f
}

// row is an Or of so many equalities.
func row(count int) api.Form {
	f := eq(0, 1)
	for range count - 1 {
		f = op(api.Or, f, eq(1, 0))
	}
	return f
}

func TestJ2Bound(t *testing.T) {
	b := bank(t, "a b")
	for _, l := range [][]api.Form{
		repeated(eq(0, 1), 600),
		repeated(op(api.Not, eq(0, 1)), 300),
		repeated(op(api.And, eq(0, 0), eq(1, 1)), 200),
		{nots(eq(0, 1), 599)},
		{row(300), eq(0, 1)},
		append(repeated(row(3), 119), row(2), nots(eq(1, 1), 1)),
	} {
		if a, errno := decide.Decide(b, l); errno != api.OK || a.Sat == (a.Core != nil) {
			t.Errorf("J2: 600 Forms: %v, %d", a, errno)
		}
		if _, errno := decide.Follows(b, l[1:], l[0]); errno != api.OK {
			t.Errorf("J3: 600 Forms: %d", errno)
		}
		checkErrors(t, b, append(slices.Clone(l), eq(0, 0)), api.ErrMany)
		deeper := slices.Clone(l)
		deeper[len(l)-1] = op(api.Not, l[len(l)-1])
		checkErrors(t, b, deeper, api.ErrMany)
		checkErrors(t, b, append(deeper, eq(0, 2)), api.ErrNone)
	}
}

// A Form may be deeper than calls can be, and share its Kids, or be among them: the calls end all the same.
func TestG1Forms(t *testing.T) {
	b := bank(t, "a b")
	checkErrors(t, b, []api.Form{nots(eq(0, 1), 1000000)}, api.ErrMany)
	checkErrors(t, b, []api.Form{nots(eq(0, 2), 1000000)}, api.ErrNone)
	shared, wrong := eq(0, 1), eq(0, 2)
	for range 100 {
		shared, wrong = op(api.And, shared, shared), op(api.Or, wrong, wrong)
	}
	checkErrors(t, b, []api.Form{shared}, api.ErrMany)
	checkErrors(t, b, []api.Form{wrong}, api.ErrNone)
	checkErrors(t, b, []api.Form{shared, eq(-1, 0)}, api.ErrNone)
	ring := op(api.And, eq(0, 1), eq(0, 1))
	ring.Kids[1] = ring
	if _, errno := decide.Decide(b, []api.Form{ring}); errno != api.ErrMany {
		t.Errorf("J2: %d", errno)
	}
	if _, errno := decide.Follows(b, nil, ring); errno != api.ErrMany {
		t.Errorf("J3: %d", errno)
	}
	ring.Kids[0] = eq(0, 2)
	if _, errno := decide.Decide(b, []api.Form{ring}); errno != api.ErrNone {
		t.Errorf("J2: %d", errno)
	}
}

func TestG4Answers(t *testing.T) {
	b := term.New()
	l := mustParse(t, b, "a=b", "c=d", "f(a)!=f(b)")
	first, _ := decide.Decide(b, l)
	clear(first.Core)
	if again, _ := decide.Decide(b, l); !slices.Equal(again.Core, []int{0, 2}) {
		t.Errorf("G4: the core is %v", again.Core)
	}
	first, _ = decide.Decide(b, l[:2])
	clear(first.Classes)
	if again, _ := decide.Decide(b, l[:2]); !isModel(b, again.Classes) || !areTrue(l[:2], again.Classes) {
		t.Errorf("G4: the model is %v", again.Classes)
	}
	if size := b.Size(); size != 6 {
		t.Errorf("G4: the bank has %d terms", size)
	}
}
