package sat

import (
	"cmp"
	"slices"
)

const (
	unit        = 64 // so many conflicts has the shortest run
	firstRoom   = 2000
	moreRoom    = 200
	smallSpread = 2 // what goes over no more levels is never forgotten
)

// solve tells whether all clauses can be true. If so, values has values for which they are.
func (s *search) solve() bool {
	for turn := 1; ; turn++ {
		if found := s.run(unit * length(turn)); found != open {
			return found == yes
		}
		copy(s.wishes, s.best)
		s.forget()
	}
}

// run searches till it knows, or till it has met so many conflicts: then it answers open, on level 0.
func (s *search) run(conflicts int) truth {
	for s.end == nil {
		conflict := s.follow()
		switch {
		case conflict != nil && s.level() == 0:
			s.finish(conflict)
		case conflict != nil:
			s.keepBest()
			s.learn(conflict)
			conflicts--
		case conflicts <= 0:
			s.backTo(0)
			return open
		case !s.try():
			return yes
		}
	}
	return no
}

// try gives a value to the next variable that has none, and tells whether there was one.
func (s *search) try() bool {
	for v, ok := s.order.pop(); ok; v, ok = s.order.pop() {
		if l := v.is(s.wishes[v]); s.values[l] == open {
			s.starts = append(s.starts, len(s.trail))
			s.assign(l, nil)
			return true
		}
	}
	return false
}

// keepBest keeps the values of all levels below this one, if never more were without a conflict.
func (s *search) keepBest() {
	start := s.starts[s.level()-1]
	if start <= s.most {
		return
	}
	s.most = start
	for _, l := range s.trail[:start] {
		v := l.variable()
		s.best[v] = s.values[v.is(yes)]
	}
}

// forget drops the worse half of the learned clauses, if there are more than there is room for. On level 0, where it
// is called, none is needed as a source.
func (s *search) forget() {
	if len(s.learned) < s.room {
		return
	}
	s.room += moreRoom
	s.most = 0 // so that others can be the best from now on
	slices.SortStableFunc(s.learned, func(a, b *clause) int {
		return cmp.Or(cmp.Compare(a.spread, b.spread), cmp.Compare(len(a.literals), len(b.literals)))
	})
	for _, c := range s.learned[len(s.learned)/2:] {
		c.out = c.spread > smallSpread
	}
	s.learned = slices.DeleteFunc(s.learned, func(c *clause) bool { return c.out })
	for l := range s.watches {
		s.watches[l] = slices.DeleteFunc(s.watches[l], func(w watch) bool { return w.clause.out })
	}
}

// length tells how many units a turn has: 1 1 2 1 1 2 4 1 1 2 1 1 2 4 8 and so on. So most are short, and none is the
// longest.
func length(turn int) int {
	size := 1
	for size <= turn {
		size *= 2
	}
	for turn != size-1 {
		size /= 2
		if turn >= size {
			turn -= size - 1
		}
	}
	return size / 2
}
