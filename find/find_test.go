package find_test

import (
	"math"
	"math/rand"
	"slices"
	"testing"

	"equate/find"
)

var noNumbers = []int{-1, math.MinInt, math.MaxInt, 100000, 100001}

func TestB1New(t *testing.T) {
	for _, n := range []int{-1, 100001, math.MinInt, math.MaxInt} {
		if find.New(n) != nil {
			t.Errorf("B1: New(%d) is not nil", n)
		}
	}
	for _, n := range []int{0, 1, 7, 100000} {
		s := find.New(n)
		if s == nil || s.Count() != n || s.Mark() != 0 {
			t.Fatalf("B1: New(%d)", n)
		}
		for a := range n {
			if l := s.Class(a); s.Least(a) != a || len(l) != 1 || l[0] != a {
				t.Fatalf("B1: of %d numbers %d is with %v", n, a, l)
			}
		}
		if s.Least(n) != -1 || s.Same(n, n) {
			t.Errorf("B1: %d is one of %d numbers", n, n)
		}
	}
	one, two := find.New(3), find.New(3)
	one.Join(0, 1)
	if two.Same(0, 1) || two.Count() != 3 || two.Mark() != 0 {
		t.Error("B1: two share something")
	}
}

func TestB1Empty(t *testing.T) {
	for _, s := range []*find.Sets{find.New(0), find.New(-1)} {
		if s.Join(0, 0) || s.Least(0) != -1 || s.Same(0, 0) || s.Class(0) != nil || s.Count() != 0 || s.Mark() != 0 {
			t.Error("B1: without numbers there is something")
		}
		if !s.Undo(0) || s.Undo(1) || s.Undo(-1) {
			t.Error("B3: without numbers: Undo")
		}
	}
}

func TestB2(t *testing.T) {
	s := find.New(8)
	for _, c := range []struct {
		a, b int
		two  bool
	}{{6, 7, true}, {7, 6, false}, {3, 3, false}, {5, 3, true}, {7, 5, true}, {3, 6, false}, {1, 0, true}} {
		if s.Join(c.a, c.b) != c.two {
			t.Errorf("B2: Join(%d, %d) is not %t", c.a, c.b, c.two)
		}
	}
	for a, want := range [][]int{{0, 1}, {0, 1}, {2}, {3, 5, 6, 7}, {4}, {3, 5, 6, 7}, {3, 5, 6, 7}, {3, 5, 6, 7}} {
		if l := s.Class(a); !slices.Equal(l, want) || s.Least(a) != want[0] {
			t.Errorf("B2: Class(%d) = %v, Least %d, want %v", a, l, s.Least(a), want)
		}
		for b := range 8 {
			if s.Same(a, b) != slices.Contains(want, b) {
				t.Errorf("B2: Same(%d, %d)", a, b)
			}
		}
	}
	if s.Count() != 4 || s.Mark() != 4 {
		t.Errorf("B2, B3: Count %d, Mark %d", s.Count(), s.Mark())
	}
}

func TestB2NoNumber(t *testing.T) {
	s := find.New(4)
	s.Join(1, 2)
	for _, a := range append(noNumbers, 4) {
		if s.Join(a, 0) || s.Join(0, a) || s.Join(a, a) || s.Same(a, 0) || s.Same(0, a) || s.Same(a, a) {
			t.Errorf("B2: %d is a number", a)
		}
		if s.Least(a) != -1 || s.Class(a) != nil {
			t.Errorf("B2: Least(%d) = %d, Class %v", a, s.Least(a), s.Class(a))
		}
	}
	if s.Count() != 3 || s.Mark() != 1 || s.Least(0) != 0 {
		t.Error("B2: something has changed")
	}
}

func TestB2AnswersAreNewMemory(t *testing.T) {
	s := find.New(3)
	s.Join(0, 2)
	l := s.Class(2)
	l[0], l[1] = 7, 7
	if !slices.Equal(s.Class(0), []int{0, 2}) || s.Least(2) != 0 {
		t.Error("G4: a class that was answered is kept")
	}
}

func TestB3(t *testing.T) {
	s := find.New(6)
	s.Join(4, 5)
	s.Join(5, 4)
	s.Join(2, 3)
	if s.Mark() != 2 {
		t.Errorf("B3: Mark() = %d", s.Mark())
	}
	s.Join(3, 5)
	s.Join(0, 4)
	for _, mark := range []int{-1, 5, math.MinInt, math.MaxInt} {
		if s.Undo(mark) || s.Mark() != 4 || s.Count() != 2 || s.Least(3) != 0 {
			t.Errorf("B3: Undo(%d)", mark)
		}
	}
	if !s.Undo(4) || s.Mark() != 4 || s.Least(3) != 0 {
		t.Error("B3: Undo of nothing")
	}
	if !s.Undo(3) || s.Least(5) != 2 || s.Least(0) != 0 || !slices.Equal(s.Class(4), []int{2, 3, 4, 5}) {
		t.Errorf("B3: %v", s.Class(4))
	}
	if !s.Undo(2) || !slices.Equal(s.Class(4), []int{4, 5}) || !slices.Equal(s.Class(2), []int{2, 3}) || s.Count() != 4 {
		t.Errorf("B3: %v, %v", s.Class(4), s.Class(2))
	}
	if s.Undo(3) || !s.Join(1, 4) || s.Mark() != 3 || s.Least(5) != 1 {
		t.Error("B3: a join behind an Undo")
	}
	if !s.Undo(0) || s.Mark() != 0 || s.Count() != 6 || s.Same(4, 5) {
		t.Error("B3: Undo(0)")
	}
}

// model keeps of each number the least of its class, and that of each time ahead of a join.
type model struct {
	least   []int
	history [][]int
}

func (m *model) join(a, b int) bool {
	old, low := max(m.least[a], m.least[b]), min(m.least[a], m.least[b])
	if old == low {
		return false
	}
	m.history = append(m.history, slices.Clone(m.least))
	for i, x := range m.least {
		if x == old {
			m.least[i] = low
		}
	}
	return true
}

func (m *model) undo(mark int) bool {
	if mark < 0 || mark > len(m.history) {
		return false
	}
	if mark < len(m.history) {
		m.least = slices.Clone(m.history[mark])
		m.history = m.history[:mark]
	}
	return true
}

func (m *model) compare(t *testing.T, s *find.Sets) {
	t.Helper()
	classes := map[int][]int{}
	for a, x := range m.least {
		classes[x] = append(classes[x], a)
	}
	for a, x := range m.least {
		if s.Least(a) != x || !slices.Equal(s.Class(a), classes[x]) {
			t.Fatalf("B2: of %v: Least(%d) = %d, Class %v", m.least, a, s.Least(a), s.Class(a))
		}
	}
	if s.Count() != len(classes) || s.Mark() != len(m.history) {
		t.Fatalf("B2, B3: Count %d, want %d; Mark %d, want %d", s.Count(), len(classes), s.Mark(), len(m.history))
	}
}

func TestManyCalls(t *testing.T) {
	r := rand.New(rand.NewSource(1))
	for range 200 {
		n := 1 + r.Intn(20)
		s, m := find.New(n), &model{}
		for a := range n {
			m.least = append(m.least, a)
		}
		for range 60 {
			a, b := r.Intn(n), r.Intn(n)
			if s.Same(a, b) != (m.least[a] == m.least[b]) {
				t.Fatalf("B2: Same(%d, %d) of %v", a, b, m.least)
			}
			if r.Intn(5) > 0 {
				if s.Join(a, b) != m.join(a, b) {
					t.Fatalf("B2: Join(%d, %d), then %v", a, b, m.least)
				}
			} else if mark := r.Intn(len(m.history)+4) - 1; s.Undo(mark) != m.undo(mark) {
				t.Fatalf("B3: Undo(%d), then %v", mark, m.least)
			}
			m.compare(t, s)
		}
	}
}

// joinAll joins all numbers, and answers how many joins there were.
func joinAll(s *find.Sets, n int, with func(i int) int) int {
	count := 0
	for i := 1; i < n; i++ {
		if s.Join(with(i), i) {
			count++
		}
	}
	return count
}

func TestAllNumbers(t *testing.T) {
	const n = 100000
	for _, with := range []func(i int) int{
		func(i int) int { return i - 1 },
		func(i int) int { return 0 },
		func(i int) int { return i / 2 },
		func(i int) int { return i & (i - 1) },
	} {
		s := find.New(n)
		if count := joinAll(s, n, with); count != n-1 || s.Count() != 1 || s.Mark() != n-1 {
			t.Fatalf("B2: %d joins, %d classes", count, s.Count())
		}
		for a := range n {
			if s.Least(a) != 0 {
				t.Fatalf("B2: Least(%d) = %d", a, s.Least(a))
			}
		}
		if l := s.Class(n - 1); len(l) != n || !slices.IsSorted(l) || l[n-1] != n-1 {
			t.Fatal("B2: the class of all")
		}
		if !s.Undo(1) || s.Count() != n-1 || !slices.Equal(s.Class(1), []int{0, 1}) || !s.Undo(0) || s.Least(1) != 1 {
			t.Fatal("B3: to take all back")
		}
	}
}
