package follow

import (
	"math/rand/v2"
	"testing"

	"phalanx/api"
	"phalanx/literals"
)

func someClause(source *rand.Rand, length int) []int {
	clause := make([]int, 1+source.IntN(length))
	for i := range clause {
		clause[i] = (1 + source.IntN(api.MaxVars)) * (1 - 2*source.IntN(2))
	}
	return clause
}

// What the functions that are handed on are called with is what a search has to know.
func TestFromTellsTheClauses(t *testing.T) {
	source := rand.New(rand.NewPCG(9, 10))
	units, conflicts := 0, 0
	for range 2000 {
		f := api.Formula{Vars: api.MaxVars}
		among := map[literals.Set]int{}
		for range 16 {
			clause := someClause(source, 4)
			f.Clauses = append(f.Clauses, clause)
			among[literals.Of(clause)]++
		}
		given := literals.Of(someClause(source, 6))
		follows, ended := given, false
		unit := func(literal, clause literals.Set) {
			units++
			if ended || among[clause] == 0 || !literal.Single() || !literal.Within(clause) || literal.Within(follows) || !(clause &^ literal).Within(follows.Opposites()) {
				t.Fatalf("from %v the clause %v brings %v", follows.List(), clause.List(), literal.List())
			}
			follows |= literal
		}
		conflict := func(clause literals.Set) {
			conflicts++
			if ended || among[clause] == 0 && clause != given.Clash() || !clause.Within(follows.Opposites()) {
				t.Fatalf("from %v there is a conflict by %v", follows.List(), clause.List())
			}
			ended = true
		}
		Of(f).From(given, unit, conflict)
	}
	if units < 1000 || conflicts < 200 || conflicts > 1800 {
		t.Errorf("%d units and %d conflicts: these say too little", units, conflicts)
	}
}

func TestAddKeepsWhatBringsMore(t *testing.T) {
	c := &Clauses{}
	for _, step := range []struct {
		clause []int
		kept   int
	}{
		{[]int{1, 2, 3}, 1}, {[]int{3, 2, 1, 1}, 1}, {[]int{1, 2, 4}, 2}, {[]int{5, -5}, 2}, {[]int{1, 2, 3, 4}, 2}, {[]int{1, -2}, 3}, {[]int{2, 1}, 2}, {[]int{1}, 1}, {nil, 1}, {[]int{7}, 1},
	} {
		c.Add(literals.Of(step.clause))
		if len(c.all) != step.kept {
			t.Errorf("with %v %d clauses are kept, want %d", step.clause, len(c.all), step.kept)
		}
	}
}
