package sat_test

import (
	"math"
	"math/rand"
	"reflect"
	"slices"
	"testing"

	"equate/api"
	"equate/sat"
)

// given is what a clause becomes, if a literal is true; false, if it is true by that.
func given(clause []int, x int) ([]int, bool) {
	if slices.Contains(clause, x) {
		return nil, false
	}
	return slices.DeleteFunc(slices.Clone(clause), func(y int) bool { return y == -x }), true
}

// possible is Solve as plainly as can be: it splits by a literal of a shortest clause.
func possible(clauses [][]int) bool {
	if len(clauses) == 0 {
		return true
	}
	shortest := slices.MinFunc(clauses, func(a, b []int) int { return len(a) - len(b) })
	if len(shortest) == 0 {
		return false
	}
	for _, x := range []int{shortest[0], -shortest[0]} {
		var rest [][]int
		for _, c := range clauses {
			if d, ok := given(c, x); ok {
				rest = append(rest, d)
			}
		}
		if possible(rest) {
			return true
		}
	}
	return false
}

func areTrue(clauses [][]int, values []bool) bool {
	for _, c := range clauses {
		if !slices.ContainsFunc(c, func(x int) bool { return values[max(x, -x)-1] == (x > 0) }) {
			return false
		}
	}
	return true
}

func without(clauses [][]int, numbers []int, out int) [][]int {
	var some [][]int
	for i, k := range numbers {
		if i != out {
			some = append(some, clauses[k])
		}
	}
	return some
}

// checkSolve tells whether there are values, and has looked at them.
func checkSolve(t *testing.T, n int, clauses [][]int) bool {
	t.Helper()
	values, ok, errno := sat.Solve(n, clauses)
	if errno != api.OK {
		t.Fatalf("H1: Solve(%d, %v): %d", n, clauses, errno)
	}
	if ok && (len(values) != n || !areTrue(clauses, values)) {
		t.Fatalf("H1: Solve(%d, %v) = %v", n, clauses, values)
	}
	if !ok && values != nil {
		t.Fatalf("H1: Solve(%d, %v) = %v, false", n, clauses, values)
	}
	return ok
}

// checkCore looks at what Core answers of clauses that cannot all be true, and answers it.
func checkCore(t *testing.T, n int, clauses [][]int, isPossible func([][]int) bool) []int {
	t.Helper()
	numbers, no, errno := sat.Core(n, clauses)
	if !no || errno != api.OK {
		t.Fatalf("H2: Core(%d, %v) = %v, %t, %d", n, clauses, numbers, no, errno)
	}
	for i, k := range numbers {
		if k < 0 || k >= len(clauses) || i > 0 && k <= numbers[i-1] {
			t.Fatalf("H2: numbers %v", numbers)
		}
	}
	for out := -1; out < len(numbers); out++ {
		if isPossible(without(clauses, numbers, out)) != (out >= 0) {
			t.Fatalf("H2: Core(%d, %v) = %v, look at number %d", n, clauses, numbers, out)
		}
	}
	return numbers
}

func checkNoCore(t *testing.T, n int, clauses [][]int) {
	t.Helper()
	if numbers, no, errno := sat.Core(n, clauses); numbers != nil || no || errno != api.OK {
		t.Fatalf("H2: Core(%d, %v) = %v, %t, %d", n, clauses, numbers, no, errno)
	}
}

type few struct {
	n       int
	clauses [][]int
}

var canBe = []few{
	{0, nil}, {0, [][]int{}}, {1, nil}, {2000, nil},
	{1, [][]int{{1}}}, {1, [][]int{{-1}}}, {1, [][]int{{1, 1}, {1}}}, {1, [][]int{{1, -1}}}, {1, [][]int{{-1, 1, -1}, {-1}}},
	{2, [][]int{{1, 2}, {-1}, {-2, 1, -1}}}, {2, [][]int{{1, 2}, {-1, -2}}}, {2, [][]int{{1, 2}, {-1, 2}, {1, -2}}},
	{3, [][]int{{1}, {-1, 2}, {-2, 3}}}, {3, [][]int{{-3, 2}, {-2, 1}, {3, 1}}},
	{2000, [][]int{{2000}, {-2000, -1}, {1, 1000}}},
}

var cannotBe = []few{
	{0, [][]int{{}}}, {1, [][]int{nil}}, {1, [][]int{{1}, {}}},
	{1, [][]int{{1}, {-1}}}, {1, [][]int{{1, 1}, {-1, -1}}}, {1, [][]int{{1, -1}, {1}, {1}, {-1}}},
	{2, [][]int{{1, 2}, {-1, 2}, {1, -2}, {-1, -2}}}, {3, [][]int{{1}, {-1, 2}, {-2, 3}, {-3}}},
	{3, [][]int{{1, 2, 3}, {-1, 2}, {-2, 3}, {-3, 1}, {-1, -2, -3}}},
	{3, [][]int{{1, 2}, {3}, {-1}, {-3, 1}, {-2}, {2, 3}}},
	{2000, [][]int{{2000}, {1999, -2000}, {-1999}}},
}

func TestH1Values(t *testing.T) {
	for _, c := range canBe {
		if !checkSolve(t, c.n, c.clauses) {
			t.Errorf("H1: Solve(%d, %v) says false", c.n, c.clauses)
		}
	}
	for _, c := range cannotBe {
		if checkSolve(t, c.n, c.clauses) {
			t.Errorf("H1: Solve(%d, %v) says true", c.n, c.clauses)
		}
	}
}

func TestErrors(t *testing.T) {
	for _, c := range []struct {
		n       int
		clauses [][]int
		want    api.Errno
	}{
		{-1, nil, api.ErrRange}, {2001, nil, api.ErrRange}, {math.MinInt, nil, api.ErrRange}, {math.MaxInt, nil, api.ErrRange},
		{-1, [][]int{{0}}, api.ErrRange}, {2001, [][]int{{2002}}, api.ErrRange}, {2001, [][]int{{}}, api.ErrRange},
		{1, [][]int{{0}}, api.ErrNone}, {1, [][]int{{2}}, api.ErrNone}, {1, [][]int{{-2}}, api.ErrNone},
		{0, [][]int{{1}}, api.ErrNone}, {0, [][]int{{-1}}, api.ErrNone}, {0, [][]int{{0}}, api.ErrNone},
		{2, [][]int{{1, -2, 3}}, api.ErrNone}, {2, [][]int{{1}, {-1}, {}, {2, 0}}, api.ErrNone}, {2, [][]int{{1, -1, -3}}, api.ErrNone},
		{2000, [][]int{{2001}}, api.ErrNone}, {2000, [][]int{{-2001}}, api.ErrNone},
		{5, [][]int{{math.MinInt}}, api.ErrNone}, {5, [][]int{{math.MaxInt}}, api.ErrNone}, {5, [][]int{{1 << 32}}, api.ErrNone},
	} {
		if values, ok, errno := sat.Solve(c.n, c.clauses); values != nil || ok || errno != c.want {
			t.Errorf("H1: Solve(%d, %v) = %v, %t, %d, want %d", c.n, c.clauses, values, ok, errno, c.want)
		}
		if numbers, no, errno := sat.Core(c.n, c.clauses); numbers != nil || no || errno != c.want {
			t.Errorf("H2: Core(%d, %v) = %v, %t, %d, want %d", c.n, c.clauses, numbers, no, errno, c.want)
		}
	}
}

func TestH2Core(t *testing.T) {
	for _, c := range canBe {
		checkNoCore(t, c.n, c.clauses)
	}
	for _, c := range cannotBe {
		checkCore(t, c.n, c.clauses, possible)
	}
}

// someClauses are clauses of at most so many literals, now and then with one twice, or with an opposite, or without any.
func someClauses(r *rand.Rand, n int, count int, most int) [][]int {
	var clauses [][]int
	for range count {
		size := 1 + r.Intn(most)
		if r.Intn(100) == 0 {
			size = 0
		}
		clause := make([]int, 0, size)
		for range size {
			x := 1 + r.Intn(n)
			if r.Intn(2) == 0 {
				x = -x
			}
			clause = append(clause, x)
		}
		clauses = append(clauses, clause)
	}
	return clauses
}

func TestMany(t *testing.T) {
	r := rand.New(rand.NewSource(1))
	cores := 0
	for range 6000 {
		n := 1 + r.Intn(9)
		clauses := someClauses(r, n, r.Intn(6*n), 1+r.Intn(4))
		want := possible(clauses)
		if checkSolve(t, n, clauses) != want {
			t.Fatalf("H1: Solve(%d, %v) says %t", n, clauses, !want)
		}
		if want {
			checkNoCore(t, n, clauses)
			continue
		}
		cores++
		checkCore(t, n, clauses, possible)
	}
	if cores < 1000 || cores > 5000 {
		t.Errorf("%d of 6000 had a core", cores)
	}
}

// three are clauses of three literals of different variables.
func three(r *rand.Rand, n int, count int) [][]int {
	var clauses [][]int
	for range count {
		var clause []int
		for _, i := range r.Perm(n)[:3] {
			clause = append(clause, (i+1)*(1-2*r.Intn(2)))
		}
		clauses = append(clauses, clause)
	}
	return clauses
}

func TestManyGreater(t *testing.T) {
	r := rand.New(rand.NewSource(2))
	for i := range 60 {
		n := 30 + r.Intn(15)
		clauses := three(r, n, n*(38+i%12)/10)
		want := possible(clauses)
		if checkSolve(t, n, clauses) != want {
			t.Fatalf("H1: Solve(%d, %v) says %t", n, clauses, !want)
		}
		if want {
			checkNoCore(t, n, clauses)
		} else {
			checkCore(t, n, clauses, func(some [][]int) bool { return checkSolve(t, n, some) })
		}
	}
}

func TestH1Great(t *testing.T) {
	r := rand.New(rand.NewSource(3))
	if !checkSolve(t, 2000, three(r, 2000, 6600)) {
		t.Error("H1: 6600 clauses cannot all be true")
	}
	if checkSolve(t, 300, three(r, 300, 3000)) {
		t.Error("H1: 3000 clauses can all be true")
	}
	for range 10 {
		checkSolve(t, 150, three(r, 150, 620))
	}
}

// pigeons says that each of so many pigeons sits in a hole, and that no two are in one.
func pigeons(count int, holes int) (int, [][]int) {
	in := func(pigeon int, hole int) int { return pigeon*holes + hole + 1 }
	var clauses [][]int
	for p := range count {
		var clause []int
		for h := range holes {
			clause = append(clause, in(p, h))
			for q := range p {
				clauses = append(clauses, []int{-in(p, h), -in(q, h)})
			}
		}
		clauses = append(clauses, clause)
	}
	return count * holes, clauses
}

func TestPigeons(t *testing.T) {
	for holes := 1; holes <= 7; holes++ {
		if n, clauses := pigeons(holes, holes); !checkSolve(t, n, clauses) {
			t.Errorf("H1: %d pigeons", holes)
		}
		n, clauses := pigeons(holes+1, holes)
		if checkSolve(t, n, clauses) {
			t.Errorf("H1: %d pigeons in %d holes", holes+1, holes)
		}
		if numbers, _, _ := sat.Core(n, clauses); len(numbers) != len(clauses) {
			t.Errorf("H2: %d of %d clauses for %d holes", len(numbers), len(clauses), holes)
		}
	}
}

// corners are all clauses with all of n variables: each one forbids one choice of values.
func corners(n int) [][]int {
	var clauses [][]int
	for bits := range 1 << n {
		var clause []int
		for i := range n {
			clause = append(clause, (i+1)*(1-2*(bits>>i&1)))
		}
		clauses = append(clauses, clause)
	}
	return clauses
}

func TestH2Corners(t *testing.T) {
	for n := 1; n <= 12; n++ {
		clauses := corners(n)
		if numbers, no, _ := sat.Core(n, clauses); !no || len(numbers) != len(clauses) {
			t.Errorf("H2: %d of %d corners", len(numbers), len(clauses))
		}
		clauses[len(clauses)-1] = clauses[0]
		if !checkSolve(t, n, clauses) {
			t.Errorf("H1: of %d variables, one corner is free", n)
		}
	}
}

func TestH2Chain(t *testing.T) {
	const n = 2000
	clauses := [][]int{{1}, {-n}}
	for x := 1; x < n; x++ {
		clauses = append(clauses, []int{-x, x + 1}, []int{-x, x + 1, 7})
	}
	numbers, _, _ := sat.Core(n, clauses)
	if len(numbers) != n+1 {
		t.Errorf("H2: %d of %d", len(numbers), n+1)
	}
	if checkSolve(t, n, without(clauses, numbers, -1)) {
		t.Error("H2: the core can be true")
	}
	for out := 0; out < len(numbers); out += 97 {
		if !checkSolve(t, n, without(clauses, numbers, out)) {
			t.Errorf("H2: number %d can be left out", out)
		}
	}
}

func TestLongLists(t *testing.T) {
	r := rand.New(rand.NewSource(4))
	clauses := someClauses(r, 3, 300000, 3)
	numbers, no, errno := sat.Core(3, clauses)
	if !no || errno != api.OK || possible(without(clauses, numbers, -1)) {
		t.Errorf("H2: %v, %t, %d", numbers, no, errno)
	}
	long := make([]int, 1000000)
	for i := range long {
		long[i] = 2
	}
	if !checkSolve(t, 2, [][]int{long, {-1}}) || checkSolve(t, 2, [][]int{long, {-1}, {1, -2}}) {
		t.Error("H1: a long clause")
	}
	if numbers := checkCore(t, 2, [][]int{long, {-1}, {1, -2}}, func(some [][]int) bool { return checkSolve(t, 2, some) }); len(numbers) != 3 {
		t.Errorf("H2: %v", numbers)
	}
}

func TestListsStayAsTheyAre(t *testing.T) {
	clauses, same := [][]int{{3, 1, 2, 1}, {-3}, {-2, -2}, {-1, 3}, {2, -2}}, [][]int{{3, 1, 2, 1}, {-3}, {-2, -2}, {-1, 3}, {2, -2}}
	sat.Solve(3, clauses)
	sat.Core(3, clauses)
	sat.Solve(3, clauses[1:])
	if !reflect.DeepEqual(clauses, same) {
		t.Errorf("G4: %v", clauses)
	}
	one, _, _ := sat.Core(3, clauses)
	one[0] = 99
	if two, _, _ := sat.Core(3, clauses); !slices.Equal(two, []int{0, 1, 2, 3}) {
		t.Errorf("G4: %v", two)
	}
}
