package phalanx

import (
	"math"
	"math/rand/v2"
	"slices"
	"testing"

	"phalanx/api"
)

// plainFollow is written as the document says it, a literal at a time, and does not end at a conflict.
func plainFollow(clauses [][]int, given []int) (follows map[int]int, conflict bool) {
	follows = map[int]int{}
	for _, literal := range given {
		follows[literal]++
	}
	others := func(clause []int, one int) bool {
		for _, literal := range clause {
			if literal != one && follows[-literal] == 0 {
				return false
			}
		}
		return true
	}
	for grown := true; grown; {
		grown = false
		for _, clause := range clauses {
			for _, one := range clause {
				if follows[one] == 0 && others(clause, one) {
					follows[one]++
					grown = true
				}
			}
		}
	}
	for literal := range follows {
		conflict = conflict || follows[literal] > 0 && follows[-literal] > 0
	}
	for _, clause := range clauses {
		conflict = conflict || others(clause, 0)
	}
	return follows, conflict
}

func plainPropagate(f api.Formula, given []int) (list []int, conflict bool) {
	follows, conflict := plainFollow(f.Clauses, given)
	if conflict {
		return nil, true
	}
	for v := 1; v <= f.Vars; v++ {
		for _, literal := range []int{v, -v} {
			if follows[literal] > 0 {
				list = append(list, literal)
			}
		}
	}
	return list, false
}

func holdPropagate(t *testing.T, f api.Formula, given []int) (conflict bool) {
	t.Helper()
	want, conflict := plainPropagate(f, given)
	if got, x, e := Propagate(f, given); e != api.OK || x != conflict || !slices.Equal(got, want) {
		t.Fatalf("P6: Propagate(%v, %v) = %v, %v, %d, want %v, %v", f, given, got, x, e, want, conflict)
	}
	return conflict
}

// allLists: all lists of up to so many literals of so many variables, in each order, with the same ones several times.
func allLists(vars, length int) [][]int {
	lists, last := [][]int{{}}, [][]int{{}}
	for range length {
		var longer [][]int
		for _, list := range last {
			for v := 1; v <= vars; v++ {
				longer = append(longer, append(slices.Clone(list), v), append(slices.Clone(list), -v))
			}
		}
		lists, last = append(lists, longer...), longer
	}
	return lists
}

func TestP6Examples(t *testing.T) {
	f := api.Formula{Vars: 2, Clauses: [][]int{{1, -2}, {2}}}
	if l, conflict, e := Propagate(f, nil); !slices.Equal(l, []int{1, 2}) || conflict || e != api.OK {
		t.Errorf("P6: Propagate = %v, %v, %d", l, conflict, e)
	}
	if l, conflict, e := Propagate(f, []int{-1}); len(l) != 0 || !conflict || e != api.OK {
		t.Errorf("P6: Propagate of -1 = %v, %v, %d", l, conflict, e)
	}
}

func TestP6Edges(t *testing.T) {
	for _, c := range []struct {
		vars        int
		clauses     [][]int
		given, want []int
		conflict    bool
	}{
		{0, nil, nil, nil, false},
		{0, [][]int{nil}, nil, nil, true},
		{3, [][]int{{}}, []int{1}, nil, true},
		{3, nil, []int{3, -1, 3, 3, -1}, []int{-1, 3}, false},
		{3, nil, []int{2, 1, -2}, nil, true},
		{2, [][]int{{2, 1, 2, 1, 2}}, []int{-1, -1}, []int{-1, 2}, false},
		{2, [][]int{{2, 2}}, nil, []int{2}, false},
		{2, [][]int{{2, 2}, {-2, -2, -2}}, nil, nil, true},
		{2, [][]int{{1, -1}, {2, -2, 2}}, nil, nil, false},
		{2, [][]int{{1, -1, 2}}, []int{-2}, []int{-2}, false},
		{2, [][]int{{1, -1, 2}}, []int{1}, []int{1}, false},
		// The last clause brings what the first ones need.
		{4, [][]int{{-3, 4}, {-2, 3}, {-1, 2}, {1}}, nil, []int{1, 2, 3, 4}, false},
		{4, [][]int{{-3, -4}, {-3, 4}, {-2, 3}, {-1, 2}}, []int{1}, nil, true},
		// One clause is within another, and both come in either order.
		{3, [][]int{{1, 2}, {1, 2, 3}}, []int{-1}, []int{-1, 2}, false},
		{3, [][]int{{3, 2, 1}, {2, 1}}, []int{-3, -1}, []int{-1, 2, -3}, false},
		{20, [][]int{{-20, 19}, {-19, 18}}, []int{20}, []int{18, 19, 20}, false},
		{20, nil, []int{-20, 20}, nil, true},
	} {
		f := api.Formula{Vars: c.vars, Clauses: c.clauses}
		if l, conflict, e := Propagate(f, c.given); !slices.Equal(l, c.want) || conflict != c.conflict || e != api.OK {
			t.Errorf("P6: Propagate(%v, %v) = %v, %v, %d, want %v, %v", f, c.given, l, conflict, e, c.want, c.conflict)
		}
	}
}

func TestP6AllSmallFormulas(t *testing.T) {
	clauses, givens := allLists(2, 3), allLists(2, 2)
	for _, first := range clauses {
		for _, second := range clauses {
			for _, given := range givens {
				holdPropagate(t, api.Formula{Vars: 2, Clauses: [][]int{first, second}}, given)
			}
		}
	}
}

// shortClauses: so many clauses of one up to so many literals.
func shortClauses(source *rand.Rand, vars, number, length int) api.Formula {
	f := api.Formula{Vars: vars}
	for range number {
		clause := make([]int, 1+source.IntN(length))
		for i := range clause {
			clause[i] = (1 + source.IntN(vars)) * (1 - 2*source.IntN(2))
		}
		f.Clauses = append(f.Clauses, clause)
	}
	return f
}

func TestP6AgainstThePlainWay(t *testing.T) {
	source := rand.New(rand.NewPCG(5, 6))
	conflicts := 0
	const times = 3000
	for range times {
		vars := 1 + source.IntN(api.MaxVars)
		f := shortClauses(source, vars, source.IntN(2*vars), 4)
		given := shortClauses(source, vars, 1, 4).Clauses[0]
		if holdPropagate(t, f, given) {
			conflicts++
		}
	}
	if conflicts < times/10 || conflicts > times*9/10 {
		t.Errorf("%d of %d formulas have a conflict: these say too little", conflicts, times)
	}
	for range 100 {
		holdPropagate(t, someFormula(source), nil)
	}
}

func TestP6WrongLiterals(t *testing.T) {
	f := api.Formula{Vars: 5, Clauses: [][]int{{1}, {-1}}}
	for _, given := range [][]int{{0}, {6}, {-6}, {1, -1, 0}, {1, 2, 3, 4, 5, -6}, {math.MinInt}, {math.MaxInt}, {math.MinInt + 1}, make([]int, 1000)} {
		if l, conflict, e := Propagate(f, given); len(l) != 0 || conflict || e != api.ErrLiteral {
			t.Errorf("P6: Propagate(%.40v) = %v, %v, %d, want ErrLiteral", given, l, conflict, e)
		}
	}
	if _, _, e := Propagate(api.Formula{}, []int{1}); e != api.ErrLiteral {
		t.Errorf("P6: Propagate of 1 without variables: %d", e)
	}
	if l, conflict, e := Propagate(api.Formula{Vars: 20}, repeated(-20, 100000)); !slices.Equal(l, []int{-20}) || conflict || e != api.OK {
		t.Errorf("P6: Propagate of -20, given very often = %v, %v, %d", l, conflict, e)
	}
}
