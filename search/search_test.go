package search

import (
	"math/rand/v2"
	"slices"
	"testing"

	"phalanx/api"
	"phalanx/follow"
	"phalanx/literals"
)

func someFormula(source *rand.Rand) api.Formula {
	f := api.Formula{Vars: 3 + source.IntN(api.MaxVars-2)}
	for range 4 * f.Vars {
		clause := source.Perm(f.Vars)[:3]
		for i := range clause {
			clause[i] = (clause[i] + 1) * (1 - 2*source.IntN(2))
		}
		f.Clauses = append(f.Clauses, clause)
	}
	return f
}

// someGiven: literals of some variables, none of any twice.
func someGiven(source *rand.Rand, vars, number int) []int {
	given := source.Perm(vars)[:min(number, vars)]
	for i := range given {
		given[i] = (given[i] + 1) * (1 - 2*source.IntN(2))
	}
	return given
}

// Also of a formula that can be true each lemma follows, from it and the lemmas ahead, whatever is given; behind the one that forbids what is given there is none.
func TestLemmasFollow(t *testing.T) {
	source := rand.New(rand.NewPCG(1, 2))
	lemmas := map[bool]int{}
	for i := range 4000 {
		f := someFormula(source)
		given := literals.Of(someGiven(source, f.Vars, i%4*2))
		known, number, ended := follow.Of(f), 0, false
		found := func(lemma literals.Set) {
			number++
			refuted := false
			known.From(lemma.Opposites(), func(_, _ literals.Set) {}, func(literals.Set) { refuted = true })
			if !refuted || ended || lemma.Clash() != 0 {
				t.Fatalf("given %v: lemma %v of %v", given.List(), lemma.List(), f)
			}
			known.Add(lemma)
			ended = lemma.Within(given.Opposites())
		}
		truth, sat := Run(f, given, found)
		lemmas[sat] += number
		if sat == ended || sat != (truth != 0) || sat && !given.Within(truth) {
			t.Fatalf("given %v: of %v the answer is %v, true are %v", given.List(), f, sat, truth.List())
		}
	}
	if lemmas[true] < 1000 || lemmas[false] < 1000 {
		t.Errorf("only %d and %d lemmas: these say too little", lemmas[true], lemmas[false])
	}
}

// To be given a literal is as good as to have it for a clause.
func TestGivenIsAsGoodAsClauses(t *testing.T) {
	source := rand.New(rand.NewPCG(3, 4))
	count := map[bool]int{}
	ignore := func(literals.Set) {}
	for i := range 1000 {
		f := someFormula(source)
		given := someGiven(source, f.Vars, i%6)
		_, sat := Run(f, literals.Of(given), ignore)
		for _, literal := range given {
			f.Clauses = append(f.Clauses, []int{literal})
		}
		if _, want := Run(f, 0, ignore); sat != want {
			t.Fatalf("given %v: of %v the answer is %v, want %v", given, f, sat, want)
		}
		count[sat]++
	}
	if count[true] < 100 || count[false] < 100 {
		t.Errorf("%v: these say too little", count)
	}
}

// The heavy variables, which are chosen first, have nothing to do with the conflicts of the others: without lemmas that leave them out each of their assignments would be tried.
func TestLemmasLeaveOutOtherChoices(t *testing.T) {
	f := api.Formula{Vars: api.MaxVars}
	for v := 1; v < 17; v += 2 {
		f.Clauses = append(f.Clauses, slices.Repeat([][]int{{v, v + 1}}, 5)...)
	}
	for number := range 8 {
		clause := []int{18, 19, 20}
		for i := range clause {
			clause[i] *= 1 - 2*(number>>i&1)
		}
		f.Clauses = append(f.Clauses, clause)
	}
	heavy := literals.Of([]int{1, 2, 3, 4, 5, 6, 7, 8, 9, 10, 11, 12, 13, 14, 15, 16})
	for _, literal := range choices(f)[:16] {
		if !literal.Within(heavy) {
			t.Fatalf("%v is chosen ahead of the heavy ones", literal.List())
		}
	}
	number := 0
	if _, sat := Run(f, 0, func(literals.Set) { number++ }); sat || number > 8 {
		t.Errorf("it can be true: %v; %d lemmas", sat, number)
	}
}

// Of what the last choice, 2, brings, 4 takes no part in the conflict, nor do the choices 5 and 1 ahead of it.
func TestLemmaHasNothingBesideTheConflict(t *testing.T) {
	f := api.Formula{Vars: 5, Clauses: [][]int{{-2, 3}, {-1, -2, 4}, {-2, -3}}}
	f.Clauses = append(f.Clauses, slices.Repeat([][]int{{1, 5}}, 6)...)
	f.Clauses = append(f.Clauses, slices.Repeat([][]int{{2, 5}}, 4)...)
	var lemmas []literals.Set
	Run(f, 0, func(lemma literals.Set) { lemmas = append(lemmas, lemma) })
	if !slices.Equal(lemmas, []literals.Set{literals.Of([]int{-2})}) {
		t.Errorf("the lemmas are %v", lemmas)
	}
}

func TestChoicesByWeight(t *testing.T) {
	f := api.Formula{Vars: 4, Clauses: [][]int{{-3}, {-3}, {2, -1}, {-1}, {1, 2, -2}}}
	want := []int{-3, -1, 2, 4}
	got := choices(f)
	if len(got) != len(want) {
		t.Fatalf("%d choices", len(got))
	}
	for i, literal := range got {
		if literal != literals.Of(want[i:i+1]) {
			t.Errorf("choice %d is %v, want %d", i, literal.List(), want[i])
		}
	}
}
