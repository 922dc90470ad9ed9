package sat

import "slices"

// learn makes a clause of a conflict, and goes back to the lowest level on which one literal of it follows.
func (s *search) learn(conflict *clause) {
	literals := s.shorten(s.trace(conflict))
	c := &clause{literals: slices.Clone(literals), spread: s.spreadOf(literals), from: s.takeUsed()}
	s.order.age()
	if len(c.literals) == 1 {
		s.backTo(0)
		s.addFact(c)
		return
	}
	s.highestSecond(c.literals)
	s.backTo(s.levelOf(c.literals[1]))
	s.watch(c)
	s.learned = append(s.learned, c)
	s.assign(c.literals[0], c)
}

// trace goes back on the trail to the last literal from which alone, on this level, the conflict follows. It answers
// a clause that follows from the others: the opposite of that literal first, then literals of levels below.
func (s *search) trace(conflict *clause) []literal {
	learned := []literal{0} // the room for the first
	waiting := 0            // how many of this level have a mark, and were not come to
	at := len(s.trail)
	for by := conflict; ; by = s.sources[s.trail[at].variable()].clause {
		s.use(by)
		for _, l := range by.literals {
			if s.levelOf(l) == 0 || !s.mark(l.variable()) {
				continue
			}
			s.order.raise(l.variable())
			if s.levelOf(l) == s.level() {
				waiting++
			} else {
				learned = append(learned, l)
			}
		}
		at--
		for !s.marks[s.trail[at].variable()] {
			at--
		}
		waiting--
		if waiting == 0 {
			learned[0] = s.trail[at].opposite()
			return learned
		}
	}
}

// shorten leaves out literals that are false by the others alone. What stays is filled in anew in place.
func (s *search) shorten(literals []literal) []literal {
	stay := literals[:1]
	for _, l := range literals[1:] {
		if s.isByMarked(l) {
			s.use(s.sources[l.variable()].clause)
		} else {
			stay = append(stay, l)
		}
	}
	return stay
}

// isByMarked tells whether a literal has its value by facts and variables with a mark.
func (s *search) isByMarked(l literal) bool {
	by := s.sources[l.variable()].clause
	if by == nil {
		return false
	}
	for _, other := range by.literals {
		if !s.marks[other.variable()] && s.levelOf(other) > 0 {
			return false
		}
	}
	return true
}

// mark marks a variable, and tells whether it had no mark.
func (s *search) mark(v variable) bool {
	if s.marks[v] {
		return false
	}
	s.marks[v] = true
	s.marked = append(s.marked, v)
	return true
}

// spreadOf tells how many levels literals are on.
func (s *search) spreadOf(literals []literal) int {
	s.counts++
	spread := 0
	for _, l := range literals {
		if level := s.levelOf(l); s.levels[level] != s.counts {
			s.levels[level] = s.counts
			spread++
		}
	}
	return spread
}

// highestSecond puts a literal of the highest level behind the first one: so both are open as long as the clause is.
func (s *search) highestSecond(literals []literal) {
	for i := 2; i < len(literals); i++ {
		if s.levelOf(literals[i]) > s.levelOf(literals[1]) {
			literals[1], literals[i] = literals[i], literals[1]
		}
	}
}

// use notes that what comes next follows from a clause, and from the facts by which its literals are false.
func (s *search) use(c *clause) {
	if !s.tracing {
		return
	}
	s.used = append(s.used, c)
	for _, l := range c.literals {
		if s.values[l] == no && s.levelOf(l) == 0 && s.mark(l.variable()) {
			s.used = append(s.used, s.sources[l.variable()].clause)
		}
	}
}

// takeUsed answers what was noted, and makes ready for the next conflict.
func (s *search) takeUsed() []*clause {
	for _, v := range s.marked {
		s.marks[v] = false
	}
	s.marked = s.marked[:0]
	used := slices.Clone(s.used)
	s.used = s.used[:0]
	return used
}

// factOf answers a clause of one literal, which follows on level 0 from another clause. So each fact is a clause.
func (s *search) factOf(l literal, by *clause) *clause {
	if len(by.literals) == 1 {
		return by
	}
	s.use(by)
	return &clause{literals: []literal{l}, from: s.takeUsed()}
}

// finish says that there are no values: by the facts, a clause is false.
func (s *search) finish(conflict *clause) {
	s.use(conflict)
	s.end = &clause{from: s.takeUsed()}
}

// origins answers the numbers of the given clauses from which a clause of a tracing search follows, rising.
func origins(end *clause) []int {
	var numbers []int
	todo := []*clause{end}
	for len(todo) > 0 {
		last := len(todo) - 1
		c := todo[last]
		todo = todo[:last]
		if c.met {
			continue
		}
		c.met = true
		if c.from == nil {
			numbers = append(numbers, c.number)
		}
		todo = append(todo, c.from...)
	}
	slices.Sort(numbers)
	return numbers
}
