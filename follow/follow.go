// Package follow: what follows at once from literals, by clauses.
package follow

import (
	"slices"

	"phalanx/api"
	"phalanx/literals"
)

// Clauses are those by which literals follow from others; there may be none yet.
type Clauses struct {
	all []literals.Set
}

// Of: the clauses of a formula without a fault.
func Of(f api.Formula) *Clauses {
	c := &Clauses{}
	for _, clause := range f.Clauses {
		c.Add(literals.Of(clause))
	}
	return c
}

// Add puts a clause in. One with a literal and its opposite is not kept, since it brings nothing unless there is a conflict without it; nor one that has all the literals of another, since that other one brings as much. So a long proof does not pile up what it has gone beyond.
func (c *Clauses) Add(clause literals.Set) {
	if clause.Clash() != 0 {
		return
	}
	enough := func(other literals.Set) bool { return other.Within(clause) }
	if slices.ContainsFunc(c.all, enough) {
		return
	}
	c.all = append(slices.DeleteFunc(c.all, clause.Within), clause)
}

// From goes through what follows at once from the given literals. It calls unit with each literal that a clause brings, and that clause; at a conflict it calls conflict with a clause of which the opposites of all literals follow, and ends. (If a literal is given beside its opposite, that clause is these two.)
func (c *Clauses) From(given literals.Set, unit func(literal, clause literals.Set), conflict func(clause literals.Set)) {
	if clash := given.Clash(); clash != 0 {
		conflict(clash)
		return
	}
	follows := given
	for grown := true; grown; {
		grown = false
		for _, clause := range c.all {
			open := clause &^ follows.Opposites()
			if open == 0 {
				conflict(clause)
				return
			}
			if open.Single() && !open.Within(follows) {
				follows |= open
				grown = true
				unit(open, clause)
			}
		}
	}
}
