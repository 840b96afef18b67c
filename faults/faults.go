// Package faults: what is wrong with a formula, a clause or literals.
package faults

import "phalanx/api"

// Of tells the first fault of a formula, and the place of the clause that has it.
func Of(f api.Formula) (api.Errno, int) {
	if f.Vars < 0 || f.Vars > api.MaxVars {
		return api.ErrVars, 0
	}
	if len(f.Clauses) > api.MaxClauses {
		return api.ErrClauses, 0
	}
	for at, clause := range f.Clauses {
		if e := OfClause(clause, f.Vars); e != api.OK {
			return e, at
		}
	}
	return api.OK, 0
}

// OfClause tells what is wrong with a clause, or with a step of a proof.
func OfClause(clause []int, vars int) api.Errno {
	if len(clause) > api.MaxLength {
		return api.ErrLong
	}
	return OfLiterals(clause, vars)
}

// OfLiterals tells whether one in a list, however long, is no literal.
func OfLiterals(list []int, vars int) api.Errno {
	for _, literal := range list {
		// Held against both ends, since the least int has no opposite.
		if literal == 0 || literal > vars || literal < -vars {
			return api.ErrLiteral
		}
	}
	return api.OK
}
