// Package term keeps terms, each once: see doc/01-term.md.
package term

import (
	"strings"

	"equate/api"
)

const (
	mostBytes = 400
	mostName  = 6
	mostArgs  = 4
	mostAbove = 12
	mostTerms = 150
)

// entry is a term as it is kept. It is a key of a map too, so args beyond count stay 0.
type entry struct {
	name  string
	count int
	args  [mostArgs]int
}

// Bank keeps terms. Make it by New.
type Bank struct {
	entries []entry
	numbers map[entry]int
	firsts  map[string]int // of each name its first term, which tells how many args the name has
}

// New makes a bank without terms (A2).
func New() *Bank {
	return &Bank{numbers: map[entry]int{}, firsts: map[string]int{}}
}

// Read takes a term into the bank (A2).
func (b *Bank) Read(s string) (int, api.Errno, int) {
	if len(s) > mostBytes {
		return 0, api.ErrLong, 0
	}
	r := reader{Bank: b, text: s}
	return r.whole()
}

// Size tells how many terms there are (A3).
func (b *Bank) Size() int { return len(b.entries) }

// Term tells a term's name and args (A3).
func (b *Bank) Term(n int) (api.Term, bool) {
	if !b.has(n) {
		return api.Term{}, false
	}
	e := b.entries[n]
	return api.Term{Name: e.name, Args: append([]int(nil), e.args[:e.count]...)}, true
}

// Show writes a term (A3).
func (b *Bank) Show(n int) string {
	if !b.has(n) {
		return ""
	}
	var out strings.Builder
	b.write(&out, n)
	return out.String()
}

func (b *Bank) has(n int) bool { return 0 <= n && n < len(b.entries) }

func (b *Bank) write(out *strings.Builder, n int) {
	e := b.entries[n]
	out.WriteString(e.name)
	if e.count == 0 {
		return
	}
	sign := byte('(')
	for _, arg := range e.args[:e.count] {
		out.WriteByte(sign)
		b.write(out, arg)
		sign = ','
	}
	out.WriteByte(')')
}

// fits tells whether e's name has no other number of args yet.
func (b *Bank) fits(e entry) bool {
	first, known := b.firsts[e.name]
	return !known || b.entries[first].count == e.count
}

// add answers the number of e, which is new if e is.
func (b *Bank) add(e entry) int {
	if n, known := b.numbers[e]; known {
		return n
	}
	e.name = strings.Clone(e.name) // it is a piece of the caller's text, which must not be kept
	n := len(b.entries)
	b.entries = append(b.entries, e)
	b.numbers[e] = n
	if _, known := b.firsts[e.name]; !known {
		b.firsts[e.name] = n
	}
	return n
}

// takeOut leaves the first size terms alone, and the names that they have.
func (b *Bank) takeOut(size int) {
	for n := size; n < len(b.entries); n++ {
		e := b.entries[n]
		delete(b.numbers, e)
		if b.firsts[e.name] == n {
			delete(b.firsts, e.name)
		}
	}
	clear(b.entries[size:])
	b.entries = b.entries[:size]
}
