package logic_test

import (
	"math"
	"reflect"
	"slices"
	"strconv"
	"strings"
	"testing"

	"equate/api"
	"equate/logic"
	"equate/term"
)

func eq(a int, b int) api.Form { return api.Form{Pair: api.Pair{A: a, B: b}} }

func op(o int, kids ...api.Form) api.Form { return api.Form{Op: o, Kids: kids} }

func ne(a int, b int) api.Form { return op(api.Not, eq(a, b)) }

func mustParse(t *testing.T, b *term.Bank, text string) api.Form {
	t.Helper()
	f, errno, place := logic.Parse(b, text)
	if errno != api.OK || place != 0 {
		t.Fatalf("Parse(%q) = %d, %d", text, errno, place)
	}
	return f
}

func mustRead(t *testing.T, b *term.Bank, texts ...string) {
	t.Helper()
	for _, text := range texts {
		if _, errno, _ := b.Read(text); errno != api.OK {
			t.Fatalf("Read(%q) = %d", text, errno)
		}
	}
}

// shown is all that a bank says of its terms.
func shown(b *term.Bank) []string {
	var all []string
	for n := range b.Size() {
		all = append(all, b.Show(n))
	}
	return all
}

func TestF1Written(t *testing.T) {
	for text, want := range map[string]api.Form{
		"a=b":                     eq(0, 1),
		"b=a":                     eq(1, 0),
		"a=a":                     eq(0, 0),
		"a!=b":                    ne(0, 1),
		"!a=b":                    ne(0, 1),
		"!a!=b":                   op(api.Not, ne(0, 1)),
		"!!a=b":                   op(api.Not, ne(0, 1)),
		"(a=b)":                   eq(0, 1),
		"((a!=b))":                ne(0, 1),
		"!(a=b)":                  ne(0, 1),
		"f(a)=g(b,a)":             eq(2, 3),
		"a=b&b=a":                 op(api.And, eq(0, 1), eq(1, 0)),
		"a=b|b=a":                 op(api.Or, eq(0, 1), eq(1, 0)),
		"a=b->b=a":                op(api.Implies, eq(0, 1), eq(1, 0)),
		"a=a&a=b&b=b":             op(api.And, op(api.And, eq(0, 0), eq(0, 1)), eq(1, 1)),
		"a=a&(a=b&b=b)":           op(api.And, eq(0, 0), op(api.And, eq(0, 1), eq(1, 1))),
		"a=a|a=b|b=b":             op(api.Or, op(api.Or, eq(0, 0), eq(0, 1)), eq(1, 1)),
		"a=a->a=b->b=b":           op(api.Implies, eq(0, 0), op(api.Implies, eq(0, 1), eq(1, 1))),
		"(a=a->a=b)->b=b":         op(api.Implies, op(api.Implies, eq(0, 0), eq(0, 1)), eq(1, 1)),
		"a=a|a=b&b=b":             op(api.Or, eq(0, 0), op(api.And, eq(0, 1), eq(1, 1))),
		"a=a&a=b|b=b":             op(api.Or, op(api.And, eq(0, 0), eq(0, 1)), eq(1, 1)),
		"(a=a|a=b)&b=b":           op(api.And, op(api.Or, eq(0, 0), eq(0, 1)), eq(1, 1)),
		"a=a|a=b->b=b|b=a":        op(api.Implies, op(api.Or, eq(0, 0), eq(0, 1)), op(api.Or, eq(1, 1), eq(1, 0))),
		"a=a->a=b|b=b":            op(api.Implies, eq(0, 0), op(api.Or, eq(0, 1), eq(1, 1))),
		"!a=a&b=b":                op(api.And, ne(0, 0), eq(1, 1)),
		"!(a=a&b=b)":              op(api.Not, op(api.And, eq(0, 0), eq(1, 1))),
		"!a=a|!b=b->!a=b":         op(api.Implies, op(api.Or, ne(0, 0), ne(1, 1)), ne(0, 1)),
		" a = b ":                 eq(0, 1),
		"  !  (  a  !=  b  )  ":   op(api.Not, ne(0, 1)),
		"a=b  &  b=a  |  a=a":     op(api.Or, op(api.And, eq(0, 1), eq(1, 0)), eq(0, 0)),
		" ( a=b ) -> ( b=a )":     op(api.Implies, eq(0, 1), eq(1, 0)),
		" f ( a ) = g ( b , a ) ": eq(2, 3),
		"f (a)!=f( a)&b=b":        op(api.And, ne(2, 2), eq(1, 1)),
	} {
		b := term.New()
		mustRead(t, b, "a", "b", "f(a)", "g(b,a)")
		f, errno, place := logic.Parse(b, text)
		if errno != api.OK || place != 0 || !reflect.DeepEqual(f, want) {
			t.Errorf("F1: Parse(%q) = %v, %d, %d, want %v", text, f, errno, place, want)
		}
		if b.Size() != 4 {
			t.Errorf("F1: behind Parse(%q): %q", text, shown(b))
		}
	}
}

func TestF1TermsAreInTheBank(t *testing.T) {
	b := term.New()
	f := mustParse(t, b, "g(x,y) = x -> !f(y) != g(x,y)")
	want := op(api.Implies, eq(2, 0), op(api.Not, ne(3, 2)))
	if !reflect.DeepEqual(f, want) {
		t.Errorf("F1: %v, want %v", f, want)
	}
	if got := shown(b); !slices.Equal(got, []string{"x", "y", "g(x,y)", "f(y)"}) {
		t.Errorf("F1: %q", got)
	}
}

// refused is a text that is no formula, and what is in the bank behind it.
type refused struct {
	text  string
	errno api.Errno
	place int
	bank  string
}

func checkRefused(t *testing.T, b *term.Bank, want refused) {
	t.Helper()
	f, errno, place := logic.Parse(b, want.text)
	if errno != want.errno || place != want.place || !reflect.DeepEqual(f, api.Form{}) {
		t.Errorf("F1: Parse(%q) = %v, %d, %d, want %d, %d", want.text, f, errno, place, want.errno, want.place)
	}
	if got := strings.Join(shown(b), " "); got != want.bank {
		t.Errorf("F1: behind Parse(%q): %q, want %q", want.text, got, want.bank)
	}
}

func TestF1Form(t *testing.T) {
	for _, want := range []refused{
		{"", api.ErrForm, 0, ""},
		{"  ", api.ErrForm, 2, ""},
		{"a", api.ErrForm, 1, "a"},
		{"a ", api.ErrForm, 2, "a"},
		{"a b", api.ErrForm, 2, "a"},
		{"a&b", api.ErrForm, 1, "a"},
		{"a)", api.ErrForm, 1, "a"},
		{"=a", api.ErrForm, 0, ""},
		{"a=", api.ErrForm, 2, "a"},
		{"a= ", api.ErrForm, 3, "a"},
		{"a=&", api.ErrForm, 2, "a"},
		{"a==b", api.ErrForm, 2, "a"},
		{"a=!b", api.ErrForm, 2, "a"},
		{"a=(b)", api.ErrForm, 2, "a"},
		{"(a)=b", api.ErrForm, 2, "a"},
		{"a!", api.ErrForm, 2, "a"},
		{"a!b", api.ErrForm, 2, "a"},
		{"a! =b", api.ErrForm, 2, "a"},
		{"a!!=b", api.ErrForm, 2, "a"},
		{"a !&", api.ErrForm, 3, "a"},
		{"a!=", api.ErrForm, 3, "a"},
		{"a!==b", api.ErrForm, 3, "a"},
		{"a=b!", api.ErrForm, 3, "a b"},
		{"a=b!=c", api.ErrForm, 3, "a b"},
		{"a=b=c", api.ErrForm, 3, "a b"},
		{"a=b c=d", api.ErrForm, 4, "a b"},
		{"a=b(", api.ErrForm, 4, "a"},
		{"a=b &", api.ErrForm, 5, "a b"},
		{"a=b&&", api.ErrForm, 4, "a b"},
		{"a=b||c=d", api.ErrForm, 4, "a b"},
		{"&a=b", api.ErrForm, 0, ""},
		{"|a=b", api.ErrForm, 0, ""},
		{"->a=b", api.ErrForm, 0, ""},
		{"-a=b", api.ErrForm, 0, ""},
		{"a-b", api.ErrForm, 1, "a"},
		{"a->b=c", api.ErrForm, 1, "a"},
		{"a=-b", api.ErrForm, 2, "a"},
		{"a=b-", api.ErrForm, 4, "a b"},
		{"a=b-c", api.ErrForm, 4, "a b"},
		{"a=b- >c=d", api.ErrForm, 4, "a b"},
		{"a=b-&c=d", api.ErrForm, 4, "a b"},
		{"a=b>c=d", api.ErrForm, 3, "a b"},
		{"a=b->", api.ErrForm, 5, "a b"},
		{"a=b->->c=d", api.ErrForm, 5, "a b"},
		{"a=b-->c=d", api.ErrForm, 4, "a b"},
		{"(", api.ErrForm, 1, ""},
		{"()", api.ErrForm, 1, ""},
		{"(a=b", api.ErrForm, 4, "a b"},
		{"(a=b ", api.ErrForm, 5, "a b"},
		{"(a=b&c=d", api.ErrForm, 8, "a b c d"},
		{"((a=b)", api.ErrForm, 6, "a b"},
		{"a=b)", api.ErrForm, 3, "a b"},
		{"(a=b))", api.ErrForm, 5, "a b"},
		{"(a=b)(c=d)", api.ErrForm, 5, "a b"},
		{"(a=b)c=d", api.ErrForm, 5, "a b"},
		{"(a=b)=c", api.ErrForm, 5, "a b"},
		{"!", api.ErrForm, 1, ""},
		{"!)", api.ErrForm, 1, ""},
		{"!=a", api.ErrForm, 1, ""},
		{"a=b\t", api.ErrForm, 3, "a b"},
		{"a=b\x00", api.ErrForm, 3, "a b"},
		{"\x00", api.ErrForm, 0, ""},
		{"a\x00", api.ErrForm, 1, "a"},
		{"a=b&\xff", api.ErrForm, 4, "a b"},
		{"a=b&é=c", api.ErrForm, 4, "a b"},
		{"A=b", api.ErrForm, 0, ""},
		{"aB=c", api.ErrForm, 1, "a"},
	} {
		checkRefused(t, term.New(), want)
	}
}

func TestF1TermErrors(t *testing.T) {
	deep := func(n int) string { return strings.Repeat("h(", n) + "a" + strings.Repeat(")", n) }
	for _, want := range []refused{
		{"a=1", api.ErrForm, 2, "a"},
		{"1=a", api.ErrForm, 0, ""},
		{"abcdefg=b", api.ErrForm, 0, ""},
		{"!( abcdefg = b )", api.ErrForm, 3, ""},
		{"a=f(", api.ErrForm, 4, "a"},
		{"a=f()", api.ErrForm, 4, "a"},
		{"a=f(b", api.ErrForm, 5, "a"},
		{"a=f(b&c=d)", api.ErrForm, 5, "a"},
		{"a=f(b=c)", api.ErrForm, 5, "a"},
		{"f(b=c", api.ErrForm, 3, ""},
		{"a=f(b,)&c=d", api.ErrForm, 6, "a"},
		{"a=f(g(b)", api.ErrForm, 8, "a"},
		{"f(b))=c", api.ErrForm, 4, "b f(b)"},
		{"f(b)(c)=d", api.ErrForm, 4, "b f(b)"},
		{"f(b)(c)(=d", api.ErrForm, 4, "b f(b)"},
		{"a=f(b,c,d,e,x)", api.ErrRange, 12, "a"},
		{"a = f(b,c,d,e,  $)", api.ErrRange, 16, "a"},
		{"a=f(b,c,d,e,", api.ErrForm, 12, "a"},
		{"a=f(b)&f=c", api.ErrTwice, 7, "a b f(b)"},
		{"a=b&b(a)=$", api.ErrTwice, 4, "a b"},
		{"a=b&b(a=c)", api.ErrForm, 7, "a b"},
		{"a = f(f)", api.ErrTwice, 4, "a"},
		{"a=b & c = k(b, a(c))", api.ErrTwice, 15, "a b c"},
		{deep(13) + "=b", api.ErrDeep, 26, ""},
		{"b= " + deep(13), api.ErrDeep, 29, "b"},
	} {
		checkRefused(t, term.New(), want)
	}
	b := term.New()
	if f := mustParse(t, b, deep(12)+"=a"); !reflect.DeepEqual(f, eq(12, 0)) {
		t.Errorf("F1: %v", f)
	}
}

func TestF1Long(t *testing.T) {
	b := term.New()
	checkRefused(t, b, refused{"a=b" + strings.Repeat(" ", 398), api.ErrLong, 0, ""})
	checkRefused(t, b, refused{strings.Repeat("$", 401), api.ErrLong, 0, ""})
	checkRefused(t, b, refused{strings.Repeat("(", 1<<20), api.ErrLong, 0, ""})
	checkRefused(t, b, refused{strings.Repeat("$", 400), api.ErrForm, 0, ""})
	if f := mustParse(t, b, strings.Repeat(" ", 397)+"a=b"); !reflect.DeepEqual(f, eq(0, 1)) {
		t.Errorf("F1: %v", f)
	}
	mustParse(t, b, strings.Repeat("a=b&", 99)+"b=aa")
	mustParse(t, b, strings.Repeat("a=b->", 79)+"b = a")
}

func TestF1Deep(t *testing.T) {
	closed := func(n int) string { return strings.Repeat(")", n) }
	for _, text := range []string{
		strings.Repeat("!", 20) + "a=b",
		strings.Repeat("!", 20) + "a!=b",
		strings.Repeat("(", 20) + "a!=b" + closed(20),
		strings.Repeat("!(", 10) + "a=b&f(a)=b" + closed(10),
		strings.Repeat("(", 19) + "!a=b&!a=b" + closed(19) + "&!!!!!a=b",
		"(!a=b)&(!a=b)&(!a=b)&(!a=b)&(!a=b)&(!a=b)&(!a=b)&(!a=b)&(!a=b)&(!a=b)&(!a=b)&(!a=b)",
		"!a=b&!a=b&!a=b&!a=b&!a=b&!a=b&!a=b&!a=b&!a=b&!a=b&!a=b&!a=b&!a=b&!a=b&!a=b&!a=b&!a=b&!a=b&!a=b&!a=b&!a=b&!a=b",
	} {
		mustParse(t, term.New(), text)
	}
	for _, want := range []refused{
		{strings.Repeat("!", 21) + "a=b", api.ErrDeep, 20, ""},
		{strings.Repeat("(", 21) + "a=b" + closed(21), api.ErrDeep, 20, ""},
		{strings.Repeat("!", 21), api.ErrDeep, 20, ""},
		{strings.Repeat("(", 400), api.ErrDeep, 20, ""},
		{strings.Repeat("! ", 20) + "(a=b)", api.ErrDeep, 40, ""},
		{strings.Repeat("(", 20) + "a=b & !a=b" + closed(20), api.ErrDeep, 26, "a b"},
		{strings.Repeat("!(", 10) + "a=b|(c=d)" + closed(10), api.ErrDeep, 24, "a b"},
		{"x=y&" + strings.Repeat("(", 20) + "$" + closed(20), api.ErrForm, 24, "x y"},
		{"$" + strings.Repeat("(", 30), api.ErrForm, 0, ""},
	} {
		checkRefused(t, term.New(), want)
	}
}

func TestF1Many(t *testing.T) {
	b := term.New()
	var texts []string
	for i := range 148 {
		texts = append(texts, "x"+strconv.Itoa(i))
	}
	mustRead(t, b, texts...)
	bank := strings.Join(texts, " ")
	checkRefused(t, b, refused{"x0 = f(g(y))$", api.ErrMany, 5, bank})
	checkRefused(t, b, refused{"!f(g(y))=$", api.ErrMany, 1, bank})
	checkRefused(t, b, refused{"x0=f(g($))", api.ErrForm, 7, bank})
	checkRefused(t, b, refused{"y=x0 & z(y) = x1 & u=v", api.ErrMany, 19, bank + " y z(y)"})
	mustParse(t, b, "y=z(y)&x0=x147")
	checkRefused(t, b, refused{"x0=u", api.ErrMany, 3, bank + " y z(y)"})
}

func TestF1AnswersAreNewMemory(t *testing.T) {
	b := term.New()
	f := mustParse(t, b, "a=b&a=b&(a=b->a=b)")
	g := mustParse(t, b, "a=b&a=b&(a=b->a=b)")
	f.Kids[0].Kids[0].Pair.A = 9
	f.Kids[1] = eq(7, 7)
	_ = append(f.Kids[:1], eq(6, 6))
	if got := logic.Show(b, g); got != "((a=b&a=b)&(a=b->a=b))" {
		t.Errorf("G4: %s", got)
	}
}

func TestF2Show(t *testing.T) {
	for text, want := range map[string]string{
		"a = b":                      "a=b",
		"b=f( a , b )":               "b=f(a,b)",
		"a != b":                     "a!=b",
		"! a = b":                    "a!=b",
		"! ! a=b":                    "!a!=b",
		"!!!a=b":                     "!!a!=b",
		"!a!=b":                      "!a!=b",
		"(a=b)":                      "a=b",
		"a=b & b=a":                  "(a=b&b=a)",
		"a=b | b=a":                  "(a=b|b=a)",
		"a=b -> b=a":                 "(a=b->b=a)",
		"!(a=b|b=a)":                 "!(a=b|b=a)",
		"a!=b&a=b":                   "(a!=b&a=b)",
		"a!=b&a!=b":                  "(a!=b&a!=b)",
		"!(a!=b)|a=b":                "(!a!=b|a=b)",
		"a = b & !(c = d) -> x != y": "((a=b&c!=d)->x!=y)",
		"a=a->b=b->a=b":              "(a=a->(b=b->a=b))",
		"a=a|b=b|a=b":                "((a=a|b=b)|a=b)",
	} {
		b := term.New()
		if got := logic.Show(b, mustParse(t, b, text)); got != want {
			t.Errorf("F2: Show of %q = %q, want %q", text, got, want)
		}
	}
}

func TestF2ShowIsRead(t *testing.T) {
	b := term.New()
	for _, text := range []string{"a=b", "!!a=f(b)", "!(a=b&b=c)->!a=b|!!c=d", "a=b->b=c->c=d", "!(!a=b&!(c!=d))"} {
		f := mustParse(t, b, text)
		if g := mustParse(t, b, logic.Show(b, f)); !reflect.DeepEqual(f, g) {
			t.Errorf("F2: %q is written as %q", text, logic.Show(b, f))
		}
	}
}

// strange are Forms that are no formulas of a bank.
func strange() []api.Form {
	forms := []api.Form{
		{Op: -1}, {Op: 5}, {Op: math.MinInt}, {Op: math.MaxInt},
		op(api.Not), op(api.And), op(api.Or), op(api.Implies),
		op(api.Not, eq(0, 0), eq(0, 0)), op(api.And, eq(0, 0)), op(api.Or, eq(0, 0)), op(api.Implies, eq(0, 0)),
		op(api.And, eq(0, 0), eq(0, 0), eq(0, 0)), op(api.Or, eq(0, 0), eq(0, 0), eq(0, 0)),
		op(api.Implies, eq(0, 0), eq(0, 0), eq(0, 0)), op(5, eq(0, 0)), op(-1, eq(0, 0), eq(0, 0)),
		eq(-1, 0), eq(0, -1), eq(2, 0), eq(0, 2), eq(math.MaxInt, math.MaxInt), eq(math.MinInt, math.MinInt),
	}
	return append(forms, op(api.Equal, eq(0, 0), op(9, eq(1, 1))))
}

func TestStrangeForms(t *testing.T) {
	b := term.New()
	mustRead(t, b, "a", "b")
	for _, f := range strange() {
		for _, g := range []api.Form{f, op(api.Not, f), op(api.And, f, f), op(api.Implies, eq(0, 0), op(api.Or, f, eq(0, 1)))} {
			logic.Show(b, g)
			logic.Show(term.New(), g)
			logic.Atoms(g)
			logic.Clauses(g)
			logic.Eval(g, nil)
			logic.Eval(g, []int{0, 0})
		}
	}
}

func TestF3Eval(t *testing.T) {
	yes, not := eq(0, 1), eq(0, 2)
	for _, c := range []struct {
		f    api.Form
		want bool
	}{
		{yes, true}, {not, false}, {eq(1, 0), true}, {eq(2, 2), true},
		{op(api.Not, yes), false}, {op(api.Not, not), true}, {op(api.Not, op(api.Not, yes)), true},
		{op(api.And, yes, yes), true}, {op(api.And, yes, not), false}, {op(api.And, not, yes), false}, {op(api.And, not, not), false},
		{op(api.Or, yes, yes), true}, {op(api.Or, yes, not), true}, {op(api.Or, not, yes), true}, {op(api.Or, not, not), false},
		{op(api.Implies, yes, yes), true}, {op(api.Implies, yes, not), false}, {op(api.Implies, not, yes), true}, {op(api.Implies, not, not), true},
		{op(api.And, op(api.Or, not, yes), op(api.Implies, yes, op(api.Not, not))), true},
		{op(api.Or, op(api.And, yes, not), op(api.Not, op(api.Implies, not, yes))), false},
	} {
		if got := logic.Eval(c.f, []int{7, 7, -3}); got != c.want {
			t.Errorf("F3: Eval(%v) = %t", c.f, got)
		}
	}
}

func TestF3EvalOutside(t *testing.T) {
	for _, f := range []api.Form{eq(-1, -1), eq(-1, 0), eq(0, -1), eq(2, 2), eq(0, 2), eq(2, 0), eq(math.MinInt, math.MinInt), eq(math.MaxInt, math.MaxInt), eq(0, math.MinInt)} {
		if logic.Eval(f, []int{0, 0}) {
			t.Errorf("F3: %v is true", f)
		}
		if !logic.Eval(op(api.Not, f), []int{0, 0}) {
			t.Errorf("F3: Not of %v is false", f)
		}
	}
	if logic.Eval(eq(0, 0), nil) || !logic.Eval(eq(0, 0), []int{5}) {
		t.Error("F3: Eval of 0=0")
	}
}

func TestF3EvalStrange(t *testing.T) {
	yes := eq(0, 0)
	for _, f := range []api.Form{
		op(api.Not), op(api.Not, op(api.Not, yes), op(api.Not, yes)), op(api.And), op(api.And, yes), op(api.And, yes, yes, yes),
		op(api.Or), op(api.Or, yes), op(api.Or, yes, yes, yes), op(api.Implies), op(api.Implies, yes), op(api.Implies, yes, yes, yes),
		op(5, yes, yes), op(-1, yes), {Op: 5}, {Op: math.MaxInt, Kids: []api.Form{yes}},
		op(api.Equal, yes), op(api.Equal, op(5)), op(api.Equal, yes, yes), op(api.Equal, op(api.Equal, yes)), op(api.Equal, op(api.Not, yes)),
	} {
		if logic.Eval(f, []int{0}) {
			t.Errorf("F3: %v is true", f)
		}
		if !logic.Eval(op(api.Not, f), []int{0}) || !logic.Eval(op(api.Implies, f, f), []int{0}) || !logic.Eval(op(api.Or, f, yes), []int{0}) {
			t.Errorf("F3: within others, %v is true", f)
		}
	}
	if !logic.Eval(api.Form{Op: api.Not, Pair: api.Pair{A: 5, B: -5}, Kids: []api.Form{eq(0, 1)}}, []int{0, 1}) {
		t.Error("F3: the Pair of a Not counts")
	}
	if !logic.Eval(api.Form{Kids: []api.Form{}}, []int{0}) {
		t.Error("F3: an empty list of Kids counts")
	}
}

func TestF3Atoms(t *testing.T) {
	for _, c := range []struct {
		f    api.Form
		want []api.Pair
	}{
		{eq(3, 2), []api.Pair{{A: 3, B: 2}}},
		{ne(3, 2), []api.Pair{{A: 3, B: 2}}},
		{op(api.And, eq(1, 2), eq(1, 2)), []api.Pair{{A: 1, B: 2}}},
		{op(api.And, eq(1, 2), eq(2, 1)), []api.Pair{{A: 1, B: 2}, {A: 2, B: 1}}},
		{op(api.Or, op(api.Implies, eq(5, 5), ne(4, 4)), op(api.And, eq(4, 4), eq(0, 9))), []api.Pair{{A: 5, B: 5}, {A: 4, B: 4}, {A: 0, B: 9}}},
		{op(api.Not), nil},
		{api.Form{Op: 7, Pair: api.Pair{A: 1, B: 2}}, nil},
		{api.Form{Op: -1, Pair: api.Pair{A: 1, B: 2}}, nil},
		{api.Form{Op: api.Not, Pair: api.Pair{A: 1, B: 2}, Kids: []api.Form{eq(3, 4)}}, []api.Pair{{A: 3, B: 4}}},
		{op(7, eq(1, 1), op(-2, eq(0, 0), eq(2, 2))), []api.Pair{{A: 1, B: 1}, {A: 0, B: 0}, {A: 2, B: 2}}},
		{op(api.And, eq(3, 3), eq(2, 2), eq(1, 1)), []api.Pair{{A: 3, B: 3}, {A: 2, B: 2}, {A: 1, B: 1}}},
		{eq(-1, math.MaxInt), []api.Pair{{A: -1, B: math.MaxInt}}},
		{op(api.Equal, eq(4, 4)), []api.Pair{{A: 0, B: 0}}},
		{op(api.Not, op(api.Equal, op(api.Not, eq(4, 4)))), []api.Pair{{A: 0, B: 0}}},
	} {
		if got := logic.Atoms(c.f); !slices.Equal(got, c.want) {
			t.Errorf("F3: Atoms(%v) = %v, want %v", c.f, got, c.want)
		}
	}
}
