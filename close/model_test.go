package close_test

import (
	"math/rand"
	"slices"
	"strconv"
	"testing"

	"equate/api"
	"equate/close"
	"equate/term"
)

// plain closes pairs as D1 says it, with no more thought: of each term the least one that is the same.
func plain(b *term.Bank, pairs []api.Pair) []int {
	least := make([]int, b.Size())
	for n := range least {
		least[n] = n
	}
	for _, p := range pairs {
		melt(least, p.A, p.B)
	}
	for again := true; again; {
		again = false
		for x := range least {
			for y := range x {
				if least[x] != least[y] && alike(b, least, x, y) {
					melt(least, x, y)
					again = true
				}
			}
		}
	}
	return least
}

func melt(least []int, x int, y int) {
	low, high := min(least[x], least[y]), max(least[x], least[y])
	for n := range least {
		if least[n] == high {
			least[n] = low
		}
	}
}

func alike(b *term.Bank, least []int, x int, y int) bool {
	s, _ := b.Term(x)
	t, _ := b.Term(y)
	return s.Name == t.Name && slices.EqualFunc(s.Args, t.Args, func(p, q int) bool { return least[p] == least[q] })
}

// anyBank has up to so many terms, of three letters and of names with one to four args.
func anyBank(t *testing.T, r *rand.Rand, size int) *term.Bank {
	b := bank(t, "a b c")
	for range 3 * size {
		args := 1 + r.Intn(4)
		text := string("fgkm"[args-1]) + "("
		for i := range args {
			if i > 0 {
				text += ","
			}
			text += b.Show(r.Intn(b.Size()))
		}
		if b.Size() < size {
			b.Read(text + ")") // a deep or long one may be refused
		}
	}
	return b
}

func TestManyCalls(t *testing.T) {
	r := rand.New(rand.NewSource(3))
	for range 300 {
		b := anyBank(t, r, 4+r.Intn(20))
		c := close.New(b)
		var pairs []api.Pair
		for range 25 {
			if mark := r.Intn(len(pairs) + 3); r.Intn(4) > 0 {
				p := api.Pair{A: r.Intn(b.Size()), B: r.Intn(b.Size())}
				pairs = append(pairs, p)
				if errno := c.Merge(p.A, p.B); errno != api.OK {
					t.Fatalf("D2: Merge(%d, %d) = %d", p.A, p.B, errno)
				}
			} else if c.Undo(mark) != (mark <= len(pairs)) {
				t.Fatalf("D3: Undo(%d) of %d pairs", mark, len(pairs))
			} else if mark < len(pairs) {
				pairs = pairs[:mark]
			}
			checkClasses(t, "D2", c, plain(b, pairs))
			if c.Mark() != len(pairs) {
				t.Fatalf("D3: Mark() = %d of %d pairs", c.Mark(), len(pairs))
			}
		}
	}
}

func TestFullBanks(t *testing.T) {
	r := rand.New(rand.NewSource(4))
	for range 5 {
		b := anyBank(t, r, 150)
		c := close.New(b)
		first := c.Classes()
		var pairs []api.Pair
		for range 30 {
			p := api.Pair{A: r.Intn(b.Size()), B: r.Intn(b.Size())}
			pairs = append(pairs, p)
			c.Merge(p.A, p.B)
		}
		checkClasses(t, "D2", c, plain(b, pairs))
		c.Undo(10)
		checkClasses(t, "D3", c, plain(b, pairs[:10]))
		c.Undo(0)
		checkClasses(t, "D3", c, first)
	}
}

func TestOneClassOfAll(t *testing.T) {
	b := term.New()
	for n := range 75 {
		if _, errno, _ := b.Read("f(a" + strconv.Itoa(n) + ")"); errno != api.OK {
			t.Fatal("75 terms with one arg each are refused")
		}
	}
	c := close.New(b)
	for n := 148; n > 0; n -= 2 {
		c.Merge(n, n-2)
	}
	if c.Merge(149, 148); slices.Max(c.Classes()) != 0 || c.Mark() != 75 {
		t.Errorf("D1: %v", c.Classes())
	}
	c.Undo(74)
	if k := c.Classes(); slices.Max(k) != 1 || k[148] != 0 || k[149] != 1 {
		t.Errorf("D3: %v", k)
	}
}

func TestManyPairs(t *testing.T) {
	const times = 500000
	b := bank(t, "f(a) f(b)")
	c := close.New(b)
	for range times {
		c.Merge(0, 2)
	}
	if c.Mark() != times || !c.Same(1, 3) || !c.Undo(1) || !c.Same(1, 3) || !c.Undo(0) || c.Same(1, 3) {
		t.Error("D3: of many pairs that say the same")
	}
	for range times / 100 {
		c.Merge(0, 2)
		c.Undo(0)
	}
	checkClasses(t, "D3: told and taken back many times", c, leasts(t, b))
}
