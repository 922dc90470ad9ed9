package sat

// clause is one that was given, or one that was learned.
type clause struct {
	literals []literal // the first two are watched
	number   int       // of a given one
	from     []*clause // of a learned one: from which ones it follows, if the search is tracing
	spread   int       // of a learned one: how many levels its literals were on
	out      bool      // it is forgotten
	met      bool      // origins came to it
}

// watch is a clause that must be looked at when a literal becomes false, if another one of its literals is not true.
type watch struct {
	clause *clause
	other  literal
}

// source tells how a variable came to its value: on which level, and by which clause (nil: it was tried).
type source struct {
	level  int
	clause *clause
}

// search looks for values by trying them, and learns a clause from each conflict. On level 0 stand the facts, on each
// level above it a value that was tried; and on each one what follows.
type search struct {
	values  []truth   // of each literal
	watches [][]watch // of each literal
	sources []source  // of each variable
	trail   []literal // what is true, in the order in which it became so
	starts  []int     // where each level but 0 begins on the trail
	seen    int       // of how many on the trail it is known what follows
	order   *order
	wishes  []truth // of each variable the value to try first
	best    []truth // of each variable its value when most were true without a conflict
	most    int     // how many were true then
	learned []*clause
	room    int     // for so many learned clauses
	tracing bool    // whether it is kept from which clauses one follows
	end     *clause // one that can never be true, if there is one

	// Of one conflict alone:
	marks  []bool     // of each variable
	marked []variable // those with a mark
	used   []*clause  // from which ones the next one follows
	levels []int      // of each level the last count that met it
	counts int
}

// newSearch makes a search over the variables 1 to n, without clauses.
func newSearch(n int) *search {
	s := &search{
		values:  make([]truth, 2*n+2),
		watches: make([][]watch, 2*n+2),
		sources: make([]source, n+1),
		order:   newOrder(n),
		wishes:  make([]truth, n+1),
		best:    make([]truth, n+1),
		room:    firstRoom,
		marks:   make([]bool, n+1),
		levels:  make([]int, n+1),
	}
	for v := range s.best {
		s.wishes[v], s.best[v] = no, no
	}
	return s
}

// add takes in a clause, ahead of solve.
func (s *search) add(c *clause) {
	switch len(c.literals) {
	case 0:
		s.end = c
	case 1:
		s.addFact(c)
	default:
		s.watch(c)
	}
}

// addFact takes in a clause with one literal, on level 0.
func (s *search) addFact(c *clause) {
	switch l := c.literals[0]; s.values[l] {
	case no:
		s.finish(c)
	case open:
		s.assign(l, c)
	}
}

func (s *search) watch(c *clause) {
	a, b := c.literals[0], c.literals[1]
	s.watches[a] = append(s.watches[a], watch{c, b})
	s.watches[b] = append(s.watches[b], watch{c, a})
}

func (s *search) level() int { return len(s.starts) }

func (s *search) levelOf(l literal) int { return s.sources[l.variable()].level }

// assign makes a literal true, on this level.
func (s *search) assign(l literal, by *clause) {
	if s.tracing && s.level() == 0 {
		by = s.factOf(l, by)
	}
	s.values[l], s.values[l.opposite()] = yes, no
	s.sources[l.variable()] = source{s.level(), by}
	s.trail = append(s.trail, l)
}

// backTo takes back all that became true above a level.
func (s *search) backTo(level int) {
	if s.level() <= level {
		return
	}
	start := s.starts[level]
	for _, l := range s.trail[start:] {
		v := l.variable()
		s.wishes[v] = s.values[v.is(yes)]
		s.values[l], s.values[l.opposite()] = open, open
		s.order.push(v)
	}
	s.trail = s.trail[:start]
	s.starts = s.starts[:level]
	s.seen = start
}

// follow makes true what follows, and answers a clause that cannot be true by that, or nil.
func (s *search) follow() *clause {
	for s.seen < len(s.trail) {
		l := s.trail[s.seen]
		s.seen++
		if c := s.visit(l.opposite()); c != nil {
			return c
		}
	}
	return nil
}

// visit looks at the clauses that watch a literal, which is false now. Those that stay are filled in anew in place.
func (s *search) visit(gone literal) *clause {
	all := s.watches[gone]
	stay := all[:0]
	for i, w := range all {
		if s.values[w.other] == yes {
			stay = append(stay, w)
			continue
		}
		if s.moves(w.clause, gone) {
			continue
		}
		first := w.clause.literals[0]
		stay = append(stay, watch{w.clause, first})
		switch s.values[first] {
		case open:
			s.assign(first, w.clause)
		case no:
			s.watches[gone] = append(stay, all[i+1:]...)
			return w.clause
		}
	}
	s.watches[gone] = stay
	return nil
}

// moves lets a clause watch another literal instead of one that is false, and tells whether it does. It does not, if
// its first literal is true, or all but that are false.
func (s *search) moves(c *clause, gone literal) bool {
	literals := c.literals
	if literals[0] == gone {
		literals[0], literals[1] = literals[1], gone
	}
	if s.values[literals[0]] == yes {
		return false
	}
	for i := 2; i < len(literals); i++ {
		l := literals[i]
		if s.values[l] != no {
			literals[1], literals[i] = l, gone
			s.watches[l] = append(s.watches[l], watch{c, literals[0]})
			return true
		}
	}
	return false
}
