package phalanx

import (
	"math"
	"math/rand/v2"
	"slices"
	"testing"

	"phalanx/api"
)

func plainFaultOfStep(step []int, vars int) api.Errno {
	if len(step) > 20 {
		return api.ErrLong
	}
	for _, literal := range step {
		if literal == 0 || literal > vars || literal < -vars {
			return api.ErrLiteral
		}
	}
	return api.OK
}

func plainCheck(f api.Formula, proof [][]int) (int, api.Errno) {
	known := slices.Clone(f.Clauses)
	for at, step := range proof {
		if e := plainFaultOfStep(step, f.Vars); e != api.OK {
			return at, e
		}
		var opposites []int
		for _, literal := range step {
			opposites = append(opposites, -literal)
		}
		if _, conflict := plainFollow(known, opposites); !conflict {
			return at, api.ErrStep
		}
		if len(step) == 0 {
			return at + 1, api.OK
		}
		known = append(known, step)
	}
	return len(proof), api.ErrEnd
}

func holdCheck(t *testing.T, f api.Formula, proof [][]int) api.Errno {
	t.Helper()
	want, wantE := plainCheck(f, proof)
	if n, e := Check(f, proof); n != want || e != wantE {
		t.Fatalf("P7: Check(%v, %v) = %d, %d, want %d, %d", f, proof, n, e, want, wantE)
	}
	return wantE
}

// allSigns: all clauses that have each of the variables first to last once; together they cannot be true.
func allSigns(first, last int) [][]int {
	clauses := [][]int{{}}
	for v := first; v <= last; v++ {
		var longer [][]int
		for _, clause := range clauses {
			longer = append(longer, append(slices.Clone(clause), v), append(slices.Clone(clause), -v))
		}
		clauses = longer
	}
	return clauses
}

// treeProof goes through all signs of the variables, in turn, and tells each clause once both that are longer by one have been told.
func treeProof(clause []int, next, last int, proof *[][]int) {
	if next <= last {
		for _, literal := range []int{next, -next} {
			treeProof(append(slices.Clone(clause), literal), next+1, last, proof)
		}
	}
	*proof = append(*proof, clause)
}

func TestP7Examples(t *testing.T) {
	f := api.Formula{Vars: 2, Clauses: allSigns(1, 2)}
	if n, e := Check(f, [][]int{{1}, {}}); n != 2 || e != api.OK {
		t.Errorf("P7: Check = %d, %d", n, e)
	}
	if n, e := Check(f, [][]int{{}}); n != 0 || e != api.ErrStep {
		t.Errorf("P7: Check of the end alone = %d, %d", n, e)
	}
	if n, e := Check(api.Formula{Clauses: [][]int{{}}}, [][]int{{}}); n != 1 || e != api.OK {
		t.Errorf("P7: Check of the end, and a clause without literals = %d, %d", n, e)
	}
}

func TestP7Edges(t *testing.T) {
	square := api.Formula{Vars: 2, Clauses: allSigns(1, 2)}
	chain := api.Formula{Vars: 4, Clauses: [][]int{{-1, 2}, {-2, 3}, {-3, 4}}}
	for i, c := range []struct {
		f     api.Formula
		proof [][]int
		n     int
		e     api.Errno
	}{
		{square, nil, 0, api.ErrEnd},
		{square, [][]int{}, 0, api.ErrEnd},
		{square, [][]int{{1}}, 1, api.ErrEnd},
		{square, [][]int{{1}, {2}, {-1}}, 3, api.ErrEnd},
		{square, [][]int{{-1}, nil}, 2, api.OK},
		// What stands behind the end does not matter.
		{square, [][]int{{1}, {}, repeated(1, 21), {0}, {3}, {math.MinInt}}, 2, api.OK},
		{square, [][]int{{}, {1}, {}}, 0, api.ErrStep},
		{chain, [][]int{{-1, 4}, {-1}, {}}, 1, api.ErrStep},
		{chain, [][]int{{}, {}}, 0, api.ErrStep},
		{chain, [][]int{{4, -2}, {3, -1, -1}, {1, -1}, {-1, 2, 3, 4}}, 4, api.ErrEnd},
		{chain, [][]int{{-4, 1}}, 0, api.ErrStep},
		// A step counts for those behind it, not for those ahead.
		{square, [][]int{{1, 2}, {}}, 1, api.ErrStep},
		{api.Formula{Vars: 3, Clauses: allSigns(1, 3)}, [][]int{{1}, {1, 2}}, 0, api.ErrStep},
		{api.Formula{Vars: 3, Clauses: allSigns(1, 3)}, [][]int{{1, 2}, {1}}, 2, api.ErrEnd},
		// The length is looked at ahead of the literals, these ahead of whether the step follows.
		{square, [][]int{{1}, repeated(9, 21), {}}, 1, api.ErrLong},
		{square, [][]int{{1}, repeated(1, 21), {}}, 1, api.ErrLong},
		{square, [][]int{{1}, append(repeated(1, 19), -1), {}}, 3, api.OK},
		{square, [][]int{append(repeated(1, 19), 0)}, 0, api.ErrLiteral},
		{square, [][]int{{1}, {2, -2, 3}, {}}, 1, api.ErrLiteral},
		{square, [][]int{{-3}}, 0, api.ErrLiteral},
		{square, [][]int{{math.MinInt}}, 0, api.ErrLiteral},
		{square, [][]int{{math.MaxInt}}, 0, api.ErrLiteral},
		{square, [][]int{{1}, {1}, {0}, {}}, 2, api.ErrLiteral},
		// The first step at which something is wrong counts, not the first kind of fault.
		{chain, [][]int{{1}, {0}, repeated(1, 21)}, 0, api.ErrStep},
		{chain, [][]int{{-1, 4}, {0}, repeated(1, 21)}, 1, api.ErrLiteral},
		{api.Formula{}, [][]int{{}}, 0, api.ErrStep},
		{api.Formula{}, [][]int{{1}}, 0, api.ErrLiteral},
	} {
		if n, e := Check(c.f, c.proof); n != c.n || e != c.e {
			t.Errorf("P7: case %d: Check(%v, %.80v) = %d, %d, want %d, %d", i, c.f, c.proof, n, e, c.n, c.e)
		}
	}
}

func TestP7AllSmallProofs(t *testing.T) {
	steps := allLists(2, 2)
	for _, f := range []api.Formula{
		{Vars: 2}, {Vars: 2, Clauses: allSigns(1, 2)}, {Vars: 2, Clauses: allSigns(1, 2)[1:]}, {Vars: 2, Clauses: [][]int{{1}, {-1, 2}}}, {Vars: 2, Clauses: [][]int{{2}, {-2, -2}}}, {Vars: 2, Clauses: [][]int{{2, -2}, {1, 2}, {1, -2}}}, {Vars: 2, Clauses: [][]int{{}, {1}}},
	} {
		for _, first := range steps {
			for _, second := range steps {
				for _, third := range steps {
					holdCheck(t, f, [][]int{first, second, third})
				}
			}
		}
	}
}

// Steps of some kinds: most of them literals, some without, and some that are wrong.
func someStep(source *rand.Rand, vars int) []int {
	switch source.IntN(30) {
	case 0:
		return nil
	case 1:
		return repeated(1, 21)
	case 2:
		return []int{1, vars + 1}
	}
	return shortClauses(source, vars, 1, 3).Clauses[0]
}

func TestP7AgainstThePlainWay(t *testing.T) {
	source := rand.New(rand.NewPCG(7, 8))
	seen := map[api.Errno]int{}
	for range 6000 {
		vars := 2 + source.IntN(4)
		f := shortClauses(source, vars, 2+source.IntN(7*vars), 4)
		var proof [][]int
		for range source.IntN(8) {
			proof = append(proof, someStep(source, vars))
		}
		seen[holdCheck(t, f, proof)]++
	}
	for _, e := range []api.Errno{api.OK, api.ErrLong, api.ErrLiteral, api.ErrStep, api.ErrEnd} {
		if seen[e] < 50 {
			t.Errorf("only %d proofs are answered %d: these say too little", seen[e], e)
		}
	}
}

func TestP7StepsLeftOutOrTurned(t *testing.T) {
	f := api.Formula{Vars: 5, Clauses: allSigns(1, 5)}
	var proof [][]int
	treeProof(nil, 1, 5, &proof)
	if e := holdCheck(t, f, proof); e != api.OK {
		t.Errorf("P7: Check of a proof: %d", e)
	}
	for at, step := range proof {
		holdCheck(t, f, slices.Delete(copied(proof), at, at+1))
		for i := range step {
			turned := copied(proof)
			turned[at][i] = -turned[at][i]
			holdCheck(t, f, turned)
		}
	}
	for at := range f.Clauses {
		less := api.Formula{Vars: 5, Clauses: slices.Delete(copied(f.Clauses), at, at+1)}
		if e := holdCheck(t, less, proof); e != api.ErrStep {
			t.Errorf("P7: Check of a proof, when a clause is missing: %d", e)
		}
	}
}

func TestP1LongProofsEnd(t *testing.T) {
	f := api.Formula{Vars: 20, Clauses: allSigns(17, 20)}
	var proof [][]int
	treeProof(nil, 5, 20, &proof)
	if n, e := Check(f, proof); n != len(proof) || e != api.OK {
		t.Errorf("P7: Check of %d steps = %d, %d", len(proof), n, e)
	}
	// Each step follows, and none of them is the end.
	if n, e := Check(f, proof[:len(proof)-1]); n != len(proof)-1 || e != api.ErrEnd {
		t.Errorf("P7: Check of %d steps = %d, %d", len(proof)-1, n, e)
	}
	same := make([][]int, 1<<17)
	for i := range same {
		same[i] = []int{17, 18, 19, 20}
	}
	if n, e := Check(f, same); n != len(same) || e != api.ErrEnd {
		t.Errorf("P7: Check of one step, many times = %d, %d", n, e)
	}
}
