// Package search: an assignment that makes a formula true, or lemmas that show that there is none.
package search

import (
	"phalanx/api"
	"phalanx/follow"
	"phalanx/keep"
	"phalanx/literals"
	"phalanx/weights"
)

// pick is a literal that was made true: by a clause of which all the others are false, or, without one, because it was given or by choice.
type pick struct {
	literal, clause literals.Set
	level           int // how many choices there were by then
}

type search struct {
	clauses *follow.Clauses
	choices []literals.Set
	picks   keep.Stack[pick]
	truth   literals.Set // the literals of all picks
	level   int
}

// Run looks for an assignment that makes a formula without a fault true, among those with the given literals (of each variable one at most): its literals, and whether there is one. It calls found with each lemma that it comes upon, which follows from the clauses and the lemmas ahead of it, whatever was given. If there is no assignment, the last lemma has opposites of given literals alone: nothing given, no literals.
func Run(f api.Formula, given literals.Set, found func(lemma literals.Set)) (literals.Set, bool) {
	s := start(f, given)
	for {
		lemma, refuted := s.advance()
		if refuted {
			found(lemma)
			if lemma.Within(given.Opposites()) {
				return 0, false
			}
			s.back(lemma)
			s.clauses.Add(lemma)
		} else if !s.choose() {
			return s.truth, true
		}
	}
}

func start(f api.Formula, given literals.Set) *search {
	s := &search{clauses: follow.Of(f), choices: choices(f)}
	for _, literal := range given.List() {
		s.put(literals.Of([]int{literal}), 0)
	}
	return s
}

// choices: of each variable the literal that weighs more, the heaviest variable first.
func choices(f api.Formula) []literals.Set {
	scores := weights.OfLiterals(f)
	list := make([]literals.Set, 0, f.Vars)
	for _, v := range weights.Order(f) {
		if scores[literals.Place(-v)] > scores[literals.Place(v)] {
			v = -v
		}
		list = append(list, literals.Of([]int{v}))
	}
	return list
}

// advance picks all that follows at once from what is true; at a conflict it tells the lemma.
func (s *search) advance() (lemma literals.Set, refuted bool) {
	conflict := func(clause literals.Set) { lemma, refuted = s.lemma(clause), true }
	s.clauses.From(s.truth, s.put, conflict)
	return lemma, refuted
}

func (s *search) put(literal, clause literals.Set) {
	s.picks.Push(pick{literal, clause, s.level})
	s.truth |= literal
}

// choose picks a literal of a variable that has none yet; false, if all have.
func (s *search) choose() bool {
	for _, literal := range s.choices {
		if !literal.Within(s.truth | s.truth.Opposites()) {
			s.level++
			s.put(literal, 0)
			return true
		}
	}
	return false
}

// lemma makes, out of a clause that is false, one that would have kept the last choice from being made: the literals in it are replaced by the others of the clauses that made them false, until one of the last level is left, and of those that were false ahead of all choices none but opposites of given ones.
func (s *search) lemma(clause literals.Set) literals.Set {
	last := s.falseAt(s.level)
	for p := range s.picks.Down() {
		opposite := p.literal.Opposites()
		replaced := p.level == 0 || p.level == s.level && !(clause&last).Single()
		if replaced && p.clause != 0 && opposite.Within(clause) {
			clause = clause&^opposite | p.clause&^p.literal
		}
	}
	return clause
}

func (s *search) falseAt(level int) literals.Set {
	var all literals.Set
	for p := range s.picks.Down() {
		if p.level == level {
			all |= p.literal.Opposites()
		}
	}
	return all
}

// back undoes picks, as far as the lemma still has just one literal left that is not false.
func (s *search) back(lemma literals.Set) {
	to := 0
	for p := range s.picks.Down() {
		if p.level < s.level && p.literal.Opposites().Within(lemma) {
			to = p.level
			break
		}
	}
	for s.level > to {
		p, _ := s.picks.Pop()
		s.truth &^= p.literal
		if p.clause == 0 {
			s.level--
		}
	}
}
