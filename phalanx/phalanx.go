// Package phalanx: whether formulas can be true: see DOC.md.
package phalanx

import (
	"phalanx/api"
	"phalanx/faults"
	"phalanx/follow"
	"phalanx/literals"
	"phalanx/parts"
	"phalanx/proofs"
	"phalanx/reading"
	"phalanx/search"
	"phalanx/weights"
)

// Parse reads a formula (P3).
func Parse(text string) (api.Formula, api.Errno, int) { return reading.Formula(text) }

// Fault tells the fault of a formula, and which clause has it (P4).
func Fault(f api.Formula) (api.Errno, int) { return faults.Of(f) }

// Scores tells how much each literal weighs (P5).
func Scores(f api.Formula) ([]float64, api.Errno) {
	if e, _ := faults.Of(f); e != api.OK {
		return nil, e
	}
	return weights.OfLiterals(f), api.OK
}

// Order tells the variables, the heaviest first (P5).
func Order(f api.Formula) ([]int, api.Errno) {
	if e, _ := faults.Of(f); e != api.OK {
		return nil, e
	}
	return weights.Order(f), api.OK
}

// Shares parts a number by the variables' weights (P5).
func Shares(f api.Formula, total int) ([]int, api.Errno) {
	if e, _ := faults.Of(f); e != api.OK {
		return nil, e
	}
	if total < 0 || total > api.MaxTotal {
		return nil, api.ErrArg
	}
	return weights.Shares(f, total), api.OK
}

// Propagate tells all that follows at once from some literals (P6).
func Propagate(f api.Formula, given []int) ([]int, bool, api.Errno) {
	if e, _ := faults.Of(f); e != api.OK {
		return nil, false, e
	}
	if e := faults.OfLiterals(given, f.Vars); e != api.OK {
		return nil, false, e
	}
	follows, refuted := literals.Of(given), false
	unit := func(literal, _ literals.Set) { follows |= literal }
	conflict := func(literals.Set) { refuted = true }
	follow.Of(f).From(follows, unit, conflict)
	if refuted {
		return nil, true, api.OK
	}
	return follows.List(), false, api.OK
}

// Check tells whether a proof is one (P7).
func Check(f api.Formula, proof [][]int) (int, api.Errno) {
	if e, _ := faults.Of(f); e != api.OK {
		return 0, e
	}
	return proofs.Check(f, proof)
}

// Solve finds an assignment, or a proof that there is none (P8).
func Solve(f api.Formula) (api.Answer, api.Errno) {
	if e, _ := faults.Of(f); e != api.OK {
		return api.Answer{}, e
	}
	return answer(func(found func(lemma literals.Set)) (literals.Set, bool) {
		return search.Run(f, 0, found)
	}), api.OK
}

// Cubes parts the assignments by the heaviest variables (P9).
func Cubes(f api.Formula, k int) ([][]int, api.Errno) {
	if e := faultOfParts(f, k); e != api.OK {
		return nil, e
	}
	return parts.Cubes(f, k), api.OK
}

// Fleet finds what Solve finds, by several workers (P10).
func Fleet(f api.Formula, k int, workers int) (api.Answer, api.Errno) {
	if e := faultOfParts(f, k); e != api.OK {
		return api.Answer{}, e
	}
	if workers < 1 || workers > api.MaxWorkers {
		return api.Answer{}, api.ErrArg
	}
	return answer(func(found func(lemma literals.Set)) (literals.Set, bool) {
		return parts.Run(f, k, workers, found)
	}), api.OK
}

// faultOfParts: what is wrong with a formula, or with how many of its variables part the assignments.
func faultOfParts(f api.Formula, k int) api.Errno {
	if e, _ := faults.Of(f); e != api.OK {
		return e
	}
	if k < 0 || k > api.MaxSplit || k > f.Vars {
		return api.ErrArg
	}
	return api.OK
}

// answer makes an answer out of a search, which tells its lemmas, and then an assignment, if there is one.
func answer(run func(found func(lemma literals.Set)) (literals.Set, bool)) api.Answer {
	var proof [][]int
	found := func(lemma literals.Set) { proof = append(proof, lemma.List()) }
	if truth, sat := run(found); sat {
		return api.Answer{Sat: true, Model: truth.List()}
	}
	return api.Answer{Proof: proof}
}
