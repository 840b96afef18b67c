// Package weights: how much literals and variables weigh. Its functions take formulas without a fault.
package weights

import (
	"phalanx/api"
	"phalanx/keep"
	"phalanx/literals"
)

// OfLiterals: for each variable v in turn the weight of v, then that of -v.
func OfLiterals(f api.Formula) []float64 {
	sums := make([]float64, 2*f.Vars)
	for _, clause := range f.Clauses {
		each := 1 / float64(int(1)<<len(clause))
		for _, literal := range clause {
			sums[literals.Place(literal)] += each
		}
	}
	return sums
}

// ofVariables: for each variable in turn the weight of both its literals.
func ofVariables(f api.Formula) []float64 {
	each := OfLiterals(f)
	sums := make([]float64, f.Vars)
	for i := range sums {
		sums[i] = each[2*i] + each[2*i+1]
	}
	return sums
}

type weighed struct {
	variable int
	weight   float64
}

// heavier also parts variables of equal weight, so that there is one order alone.
func heavier(a, b weighed) bool {
	if a.weight != b.weight {
		return a.weight > b.weight
	}
	return a.variable < b.variable
}

// Order: the variables, the heaviest first.
func Order(f api.Formula) []int {
	heap := keep.NewHeap(heavier)
	for i, weight := range ofVariables(f) {
		heap.Push(weighed{i + 1, weight})
	}
	order := make([]int, 0, f.Vars)
	for heap.Len() > 0 {
		next, _ := heap.Pop()
		order = append(order, next.variable)
	}
	return order
}

// Shares: for each variable in turn its part of total, by its weight.
func Shares(f api.Formula, total int) []int {
	each := ofVariables(f)
	all := 0.0
	for _, weight := range each {
		all += weight
	}
	shares := make([]int, f.Vars)
	if all == 0 {
		return shares
	}
	for i, weight := range each {
		// The product is converted so that it is rounded ahead of the division.
		product := float64(float64(total) * weight)
		shares[i] = int(product / all)
	}
	return shares
}
