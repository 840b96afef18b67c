package phalanx

import (
	"math"
	"testing"

	"phalanx/api"
)

type faulty struct {
	f  api.Formula
	e  api.Errno
	at int
}

func repeated(literal, times int) []int {
	clause := make([]int, times)
	for i := range clause {
		clause[i] = literal
	}
	return clause
}

func faultyFormulas() []faulty {
	return []faulty{
		{api.Formula{Vars: -1, Clauses: make([][]int, 201)}, api.ErrVars, 0},
		{api.Formula{Vars: 21, Clauses: [][]int{{0}}}, api.ErrVars, 0},
		{api.Formula{Vars: math.MinInt}, api.ErrVars, 0},
		{api.Formula{Vars: math.MaxInt}, api.ErrVars, 0},
		{api.Formula{Vars: 1, Clauses: append([][]int{{0}}, make([][]int, 200)...)}, api.ErrClauses, 0},
		{api.Formula{Vars: 1, Clauses: append(make([][]int, 199), []int{2})}, api.ErrLiteral, 199},
		{api.Formula{Vars: 1, Clauses: [][]int{{}, {1}, repeated(1, 21)}}, api.ErrLong, 2},
		{api.Formula{Vars: 1, Clauses: [][]int{repeated(0, 21)}}, api.ErrLong, 0},
		{api.Formula{Vars: 1, Clauses: [][]int{nil, {1, 1, 0}, repeated(1, 21)}}, api.ErrLiteral, 1},
		{api.Formula{Vars: 20, Clauses: [][]int{{20}, {-20}, {-21}, {21}}}, api.ErrLiteral, 2},
		{api.Formula{Vars: 20, Clauses: [][]int{{20}, {21}}}, api.ErrLiteral, 1},
		{api.Formula{Vars: 20, Clauses: [][]int{{math.MinInt}}}, api.ErrLiteral, 0},
		{api.Formula{Vars: 20, Clauses: [][]int{{math.MaxInt}}}, api.ErrLiteral, 0},
		{api.Formula{Vars: 0, Clauses: [][]int{{-1}}}, api.ErrLiteral, 0},
	}
}

func TestP4Faults(t *testing.T) {
	for _, c := range faultyFormulas() {
		if e, at := Fault(c.f); e != c.e || at != c.at {
			t.Errorf("P4: Fault(%.60v) = %d, %d, want %d, %d", c.f, e, at, c.e, c.at)
		}
	}
}

func TestP4NoFault(t *testing.T) {
	for _, f := range []api.Formula{
		{},
		{Vars: 0, Clauses: [][]int{{}, nil}},
		{Vars: 20, Clauses: make([][]int, 200)},
		{Vars: 20, Clauses: [][]int{repeated(20, 20), repeated(-20, 20), {1, -1, 1}}},
	} {
		if e, at := Fault(f); e != api.OK || at != 0 {
			t.Errorf("P4: Fault(%.60v) = %d, %d, want none", f, e, at)
		}
	}
}

// allCalls asks each call but Parse and Fault, with other arguments that are wrong, too; the answers' lists are joined to one count.
func allCalls(f api.Formula) (errors []api.Errno, elements int) {
	scores, e1 := Scores(f)
	order, e2 := Order(f)
	shares, e3 := Shares(f, -1)
	follow, conflict, e4 := Propagate(f, []int{0})
	steps, e5 := Check(f, [][]int{{0}})
	solved, e6 := Solve(f)
	cubes, e7 := Cubes(f, -1)
	found, e8 := Fleet(f, -1, 0)
	elements = len(scores) + len(order) + len(shares) + len(follow) + steps + len(cubes)
	for _, a := range []api.Answer{solved, found} {
		elements += len(a.Model) + len(a.Proof)
		if a.Sat {
			elements++
		}
	}
	if conflict {
		elements++
	}
	return []api.Errno{e1, e2, e3, e4, e5, e6, e7, e8}, elements
}

func TestP4OtherCalls(t *testing.T) {
	for _, c := range faultyFormulas() {
		errors, elements := allCalls(c.f)
		if elements != 0 {
			t.Errorf("P1: of %.60v a call answers more than the error", c.f)
		}
		for i, e := range errors {
			if e != c.e {
				t.Errorf("P4: of %.60v call %d answers %d, want %d", c.f, i, e, c.e)
			}
		}
	}
}
