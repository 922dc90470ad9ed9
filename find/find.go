// Package find keeps classes of numbers: see doc/02-find.md.
package find

import "slices"

const mostNumbers = 100000

// node is a number's place in the tree and in the ring of its class.
type node struct {
	parent int // of a tree's root the root itself
	next   int // the ring goes through the whole class
	size   int // of a root: how many numbers its class has
	least  int // of a root: the least of them
}

// join is what must be known to take a join back.
type join struct {
	child int // the root that was hung below the other one
	least int // what the other one's least number was
}

// Sets keeps classes. Make it by New.
type Sets struct {
	nodes []node
	joins []join
}

// New makes classes of one number each (B1).
func New(n int) *Sets {
	if n < 0 || n > mostNumbers {
		return nil
	}
	s := &Sets{nodes: make([]node, n)}
	for i := range s.nodes {
		s.nodes[i] = node{parent: i, next: i, size: 1, least: i}
	}
	return s
}

// Join makes one class of two (B2).
func (s *Sets) Join(a int, b int) bool {
	if !s.has(a) || !s.has(b) {
		return false
	}
	child, root := s.root(a), s.root(b)
	if child == root {
		return false
	}
	if s.nodes[child].size > s.nodes[root].size { // so no path is longer than the size's logarithm
		child, root = root, child
	}
	s.joins = append(s.joins, join{child, s.nodes[root].least})
	s.hang(child, root)
	return true
}

// Least tells a class's least number (B2).
func (s *Sets) Least(a int) int {
	if !s.has(a) {
		return -1
	}
	return s.nodes[s.root(a)].least
}

// Same tells whether two numbers are in one class (B2).
func (s *Sets) Same(a int, b int) bool {
	return s.has(a) && s.has(b) && s.root(a) == s.root(b)
}

// Class tells all numbers of a class (B2).
func (s *Sets) Class(a int) []int {
	if !s.has(a) {
		return nil
	}
	class := make([]int, 0, s.nodes[s.root(a)].size)
	class = append(class, a)
	for i := s.nodes[a].next; i != a; i = s.nodes[i].next {
		class = append(class, i)
	}
	slices.Sort(class)
	return class
}

// Count tells how many classes there are (B2).
func (s *Sets) Count() int {
	if s == nil {
		return 0
	}
	return len(s.nodes) - len(s.joins)
}

// Mark tells how many joins there were (B3).
func (s *Sets) Mark() int {
	if s == nil {
		return 0
	}
	return len(s.joins)
}

// Undo takes joins back (B3).
func (s *Sets) Undo(mark int) bool {
	if mark < 0 || mark > s.Mark() {
		return false
	}
	if s == nil {
		return true
	}
	for _, j := range slices.Backward(s.joins[mark:]) {
		s.unhang(j)
	}
	s.joins = s.joins[:mark]
	return true
}

// has is false for all numbers of nil, which is what New answers for a wrong size.
func (s *Sets) has(a int) bool {
	return s != nil && 0 <= a && a < len(s.nodes)
}

// root leaves the paths as they are: a shortened one could not be taken back with its join.
func (s *Sets) root(a int) int {
	for s.nodes[a].parent != a {
		a = s.nodes[a].parent
	}
	return a
}

// hang puts one tree below the root of another; to swap what is next makes one ring of two.
func (s *Sets) hang(child int, root int) {
	c, r := &s.nodes[child], &s.nodes[root]
	c.parent, c.next, r.next = root, r.next, c.next
	r.size += c.size
	r.least = min(r.least, c.least)
}

// unhang undoes the last hang: to swap once more makes two rings of one.
func (s *Sets) unhang(j join) {
	c := &s.nodes[j.child]
	r := &s.nodes[c.parent]
	c.parent, c.next, r.next = j.child, r.next, c.next
	r.size -= c.size
	r.least = j.least
}
