package phalanx

import (
	"math"
	"math/big"
	"math/rand/v2"
	"slices"
	"testing"

	"phalanx/api"
)

// plainWeights is exact: the weights of v, then of -v, for each variable in turn.
func plainWeights(f api.Formula) []*big.Rat {
	var out []*big.Rat
	for v := 1; v <= f.Vars; v++ {
		for _, literal := range []int{v, -v} {
			sum := new(big.Rat)
			for _, clause := range f.Clauses {
				for _, l := range clause {
					if l == literal {
						sum.Add(sum, big.NewRat(1, int64(1)<<len(clause)))
					}
				}
			}
			out = append(out, sum)
		}
	}
	return out
}

func plainOrder(weights []*big.Rat) []int {
	order := make([]int, len(weights))
	for i := range order {
		order[i] = i + 1
	}
	slices.SortStableFunc(order, func(a, b int) int { return weights[b-1].Cmp(weights[a-1]) })
	return order
}

// plainShares rounds each step to the 53 bits of a float64.
func plainShares(weights []*big.Rat, total int) []int {
	sum := new(big.Rat)
	for _, w := range weights {
		sum.Add(sum, w)
	}
	shares := make([]int, len(weights))
	if sum.Sign() == 0 {
		return shares
	}
	for i, w := range weights {
		x := new(big.Float).SetPrec(53).SetInt64(int64(total))
		x.Mul(x, new(big.Float).SetPrec(53).SetRat(w))
		x.Quo(x, new(big.Float).SetPrec(53).SetRat(sum))
		whole, _ := x.Int64()
		shares[i] = int(whole)
	}
	return shares
}

func someFormula(source *rand.Rand) api.Formula {
	f := api.Formula{Vars: source.IntN(api.MaxVars + 1)}
	for range source.IntN(api.MaxClauses + 1) {
		var clause []int
		for range source.IntN(api.MaxLength + 1) {
			if f.Vars > 0 {
				clause = append(clause, (1+source.IntN(f.Vars))*(1-2*source.IntN(2)))
			}
		}
		f.Clauses = append(f.Clauses, clause)
	}
	return f
}

func TestP5Example(t *testing.T) {
	f := api.Formula{Vars: 2, Clauses: [][]int{{1, -2}, {2}, {1, 2}}}
	if s, e := Scores(f); e != api.OK || !slices.Equal(s, []float64{0.5, 0, 0.75, 0.25}) {
		t.Errorf("P5: Scores = %v, %d", s, e)
	}
	if o, e := Order(f); e != api.OK || !slices.Equal(o, []int{2, 1}) {
		t.Errorf("P5: Order = %v, %d", o, e)
	}
	if s, e := Shares(f, 9); e != api.OK || !slices.Equal(s, []int{3, 6}) {
		t.Errorf("P5: Shares = %v, %d", s, e)
	}
}

func TestP5AgainstExactSums(t *testing.T) {
	source := rand.New(rand.NewPCG(3, 4))
	for range 300 {
		f := someFormula(source)
		exact := plainWeights(f)
		scores, e := Scores(f)
		if e != api.OK || len(scores) != len(exact) {
			t.Fatalf("P5: Scores(%v) = %v, %d", f, scores, e)
		}
		var both []*big.Rat
		for i, s := range scores {
			if new(big.Rat).SetFloat64(s).Cmp(exact[i]) != 0 {
				t.Fatalf("P5: Scores(%v)[%d] = %v, want %v", f, i, s, exact[i])
			}
			if i%2 == 1 {
				both = append(both, new(big.Rat).Add(exact[i-1], exact[i]))
			}
		}
		if order, e := Order(f); e != api.OK || !slices.Equal(order, plainOrder(both)) {
			t.Fatalf("P5: Order(%v) = %v, %d, want %v", f, order, e, plainOrder(both))
		}
		for _, total := range []int{0, 1, 7, 1000, api.MaxTotal - 1, api.MaxTotal, source.IntN(api.MaxTotal)} {
			if shares, e := Shares(f, total); e != api.OK || !slices.Equal(shares, plainShares(both, total)) {
				t.Fatalf("P5: Shares(%v, %d) = %v, %d, want %v", f, total, shares, e, plainShares(both, total))
			}
		}
	}
}

func TestP5EqualWeights(t *testing.T) {
	// 2 and 4 weigh 1 each, 1 and 3 weigh 0.75 each, by other clauses; 5 weighs nothing.
	f := api.Formula{Vars: 5, Clauses: [][]int{{4, -4}, {2, 2}, {3}, {-1}, {1, 1, 1, 1}, {3, -3, 3, 3}, {-2, 4}, {2, -4}, {}}}
	if order, _ := Order(f); !slices.Equal(order, []int{2, 4, 1, 3, 5}) {
		t.Errorf("P5: Order = %v", order)
	}
	if order, _ := Order(api.Formula{Vars: 20}); !slices.IsSorted(order) || len(order) != 20 {
		t.Errorf("P5: Order without weights = %v", order)
	}
}

func TestP5EachStepIsRounded(t *testing.T) {
	// All but the last variable weigh 1 part of 49: in float64 49 times (1/49) is below 1, 49 times 1 divided by 49 is not.
	f := api.Formula{Vars: 20}
	for v := 1; v <= 20; v++ {
		f.Clauses = append(f.Clauses, []int{v})
	}
	for range 29 {
		f.Clauses = append(f.Clauses, []int{-20})
	}
	shares, _ := Shares(f, 49)
	if want := append(repeated(1, 19), 30); !slices.Equal(shares, want) {
		t.Errorf("P5: Shares = %v, want %v", shares, want)
	}
}

func TestP5WithoutWeights(t *testing.T) {
	for _, f := range []api.Formula{{Vars: 3}, {Vars: 3, Clauses: [][]int{{}, nil}}} {
		for _, total := range []int{0, 1, api.MaxTotal} {
			if shares, e := Shares(f, total); e != api.OK || !slices.Equal(shares, []int{0, 0, 0}) {
				t.Errorf("P5: Shares(%v, %d) = %v, %d", f, total, shares, e)
			}
		}
	}
	scores, e1 := Scores(api.Formula{})
	order, e2 := Order(api.Formula{})
	shares, e3 := Shares(api.Formula{}, 5)
	if len(scores)+len(order)+len(shares) != 0 || e1 != api.OK || e2 != api.OK || e3 != api.OK {
		t.Errorf("P5: without variables: %v, %v, %v; %d, %d, %d", scores, order, shares, e1, e2, e3)
	}
}

func TestP5WrongTotal(t *testing.T) {
	f := api.Formula{Vars: 1, Clauses: [][]int{{1}}}
	for _, total := range []int{-1, math.MinInt, api.MaxTotal + 1, math.MaxInt} {
		if shares, e := Shares(f, total); e != api.ErrArg || len(shares) != 0 {
			t.Errorf("P5: Shares of %d = %v, %d, want ErrArg", total, shares, e)
		}
	}
	if shares, e := Shares(f, api.MaxTotal); e != api.OK || !slices.Equal(shares, []int{api.MaxTotal}) {
		t.Errorf("P5: Shares of MaxTotal = %v, %d", shares, e)
	}
}
