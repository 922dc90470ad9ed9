package equate_test

import (
	"math"
	"math/rand"
	"reflect"
	"runtime"
	"slices"
	"strconv"
	"strings"
	"testing"
	"time"

	"equate/api"
	"equate/equate"
)

// someScript is lines over few terms, most of them right.
func someScript(r *rand.Rand, length int) []string {
	terms := []string{"a", "b", "c", "f(a)", "f(b)", "g(a,b)", "f(f(c))", "f"}
	atom := func() string {
		return terms[r.Intn(len(terms)-r.Intn(2))] + []string{"=", "!="}[r.Intn(2)] + terms[r.Intn(len(terms)-1)]
	}
	l := []string{"show f(a)=g(a,b)"} // so that f by itself is wrong from then on
	for range length {
		form := atom()
		for range r.Intn(3) {
			form += []string{"&", "|", "->"}[r.Intn(3)] + atom()
		}
		l = append(l, []string{
			"tell " + form, "tell " + form, "push", "pop", "check", "core", "model", "follows " + form, "show " + form,
			"same " + terms[r.Intn(len(terms))] + ";" + terms[r.Intn(len(terms))], "what",
		}[r.Intn(11)])
	}
	return l
}

func TestK2Many(t *testing.T) {
	r := rand.New(rand.NewSource(1))
	var scripts, want [][]string
	for range 60 {
		scripts = append(scripts, someScript(r, r.Intn(30)))
	}
	scripts = append(scripts, nil, []string{}, []string{"", "push"})
	for _, script := range scripts {
		s := equate.New()
		list := []string{}
		for _, line := range script {
			list = append(list, s.Line(line))
		}
		want = append(want, list)
	}
	before := runtime.NumGoroutine()
	for workers := 1; workers <= 16; workers++ {
		given := make([][]string, len(scripts))
		for i := range scripts {
			given[i] = slices.Clone(scripts[i])
		}
		got, errno := equate.Many(given, workers)
		if errno != api.OK || !reflect.DeepEqual(got, want) {
			t.Errorf("K2: %d workers: %q, %d, not %q", workers, got, errno, want)
		}
		if !reflect.DeepEqual(given, scripts) {
			t.Errorf("G4: %d workers: the scripts were changed", workers)
		}
	}
	for range 1000 { // a goroutine that has said it is done may need a moment to be gone
		if runtime.NumGoroutine() <= before {
			return
		}
		time.Sleep(10 * time.Millisecond)
	}
	t.Errorf("K2: %d goroutines, %d before", runtime.NumGoroutine(), before)
}

func TestK2Workers(t *testing.T) {
	scripts := [][]string{{"push"}}
	for _, workers := range []int{0, -1, 17, math.MaxInt, math.MinInt} {
		if l, errno := equate.Many(scripts, workers); l != nil || errno != api.ErrRange {
			t.Errorf("K2: %d workers: %q, %d", workers, l, errno)
		}
	}
	for _, workers := range []int{1, 16} {
		if l, errno := equate.Many(scripts, workers); errno != api.OK || !reflect.DeepEqual(l, [][]string{{"1"}}) {
			t.Errorf("K2: %d workers: %q, %d", workers, l, errno)
		}
		if l, errno := equate.Many(nil, workers); errno != api.OK || len(l) != 0 {
			t.Errorf("K2: no scripts, %d workers: %q, %d", workers, l, errno)
		}
	}
}

// Each script has its own session, and its own bank.
func TestK2Apart(t *testing.T) {
	got, errno := equate.Many([][]string{{"tell a=b", "model"}, {"model", "tell c=a(b)", "push"}, {"push", "same a;b"}}, 3)
	if want := [][]string{{"0", "0 0"}, {"", "0", "1"}, {"1", "no"}}; errno != api.OK || !reflect.DeepEqual(got, want) {
		t.Errorf("K2: %q, %d, not %q", got, errno, want)
	}
}

// told goes through a script and keeps the formulas that are told at its end.
func told(script []string, answers []string) []string {
	var forms []string
	var pushes []int
	for i, line := range script {
		form, ok := strings.CutPrefix(line, "tell ")
		switch {
		case strings.HasPrefix(answers[i], "ERR"):
		case ok:
			forms = append(forms, form)
		case line == "push":
			pushes = append(pushes, len(forms))
		case line == "pop":
			last := len(pushes) - 1
			forms, pushes = forms[:pushes[last]], pushes[:last]
		}
	}
	return forms
}

func number(t *testing.T, text string) int {
	t.Helper()
	n, err := strconv.Atoi(text)
	if err != nil {
		t.Fatalf("K1: %q is no number", text)
	}
	return n
}

// What was pushed and popped is as if it had not been told; a core by itself is unsat.
func TestK3Popped(t *testing.T) {
	r := rand.New(rand.NewSource(2))
	for range 300 {
		script := someScript(r, 60)
		long, plain := equate.New(), equate.New()
		var answers []string
		for _, line := range script {
			answers = append(answers, long.Line(line))
		}
		forms := told(script, answers)
		for i, form := range forms {
			if got := plain.Line("tell " + form); got != strconv.Itoa(i) {
				t.Fatalf("K1: %q of %q: %q", form, script, got)
			}
		}
		for _, line := range []string{"check", "same a;b", "same f(a);f(b)", "follows a=b|b=c", "follows f(a)!=f(f(c))", "tell a=a"} {
			if a, b := long.Line(line), plain.Line(line); a != b {
				t.Fatalf("K3: %q behind %q: %q, but %q behind %q alone", line, script, a, b, forms)
			}
		}
		checkCore(t, forms)
	}
}

func checkCore(t *testing.T, forms []string) {
	t.Helper()
	s := equate.New()
	for _, form := range forms {
		s.Line("tell " + form)
	}
	core := s.Line("core")
	if (core == "sat") != (s.Line("check") == "sat") {
		t.Fatalf("K1: %q: core %q, check %q", forms, core, s.Line("check"))
	}
	if core == "sat" {
		return
	}
	numbers := strings.Split(core, " ")
	for out := -1; out < len(numbers); out++ {
		part, want := equate.New(), "unsat"
		for i, n := range numbers {
			if i != out {
				part.Line("tell " + forms[number(t, n)])
			}
		}
		if out >= 0 {
			want = "sat"
		}
		if got := part.Line("check"); got != want {
			t.Fatalf("K3: %q: of the core %q, but for its number %d: %q", forms, core, out, got)
		}
	}
}

// F follows just if, with its opposite told, check is unsat.
func TestK3Follows(t *testing.T) {
	r := rand.New(rand.NewSource(3))
	counts := map[string]int{}
	for range 400 {
		s := equate.New()
		for _, line := range someScript(r, 8) {
			s.Line(line)
		}
		for _, form := range []string{"a=b", "f(a)=f(b)", "a=c->f(b)!=c", "f(f(c))=g(a,b)", "a=b|b=c"} {
			follows := s.Line("follows " + form)
			s.Line("push")
			s.Line("tell !(" + form + ")")
			if check := s.Line("check"); (check == "unsat") != (follows == "yes") {
				t.Errorf("K3: follows %s: %q; with its opposite: %q", form, follows, check)
			}
			s.Line("pop")
			counts[follows]++
		}
		if same := s.Line("same a; f( b )"); same != s.Line("follows a=f(b)") {
			t.Errorf("K1: same a; f( b ): %q", same)
		}
	}
	if counts["yes"] < 100 || counts["no"] < 100 {
		t.Errorf("too few of either: %v", counts)
	}
}
