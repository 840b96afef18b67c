// Package proofs: whether proofs are ones.
package proofs

import (
	"phalanx/api"
	"phalanx/faults"
	"phalanx/follow"
	"phalanx/literals"
)

// Check looks at the steps of a proof for a formula without a fault, up to the first one without literals: how many it has looked at, or what is wrong, and the place of that.
func Check(f api.Formula, proof [][]int) (int, api.Errno) {
	known := follow.Of(f)
	for at, step := range proof {
		if e := faults.OfClause(step, f.Vars); e != api.OK {
			return at, e
		}
		clause := literals.Of(step)
		if !follows(clause, known) {
			return at, api.ErrStep
		}
		if len(step) == 0 {
			return at + 1, api.OK
		}
		known.Add(clause)
	}
	return len(proof), api.ErrEnd
}

// follows tells whether a step follows from clauses: whether all of its literals being false leads to a conflict.
func follows(step literals.Set, known *follow.Clauses) bool {
	refuted := false
	unit := func(literals.Set, literals.Set) {}
	conflict := func(literals.Set) { refuted = true }
	known.From(step.Opposites(), unit, conflict)
	return refuted
}
