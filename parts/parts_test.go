package parts

import (
	"math/rand/v2"
	"slices"
	"testing"

	"phalanx/api"
	"phalanx/follow"
	"phalanx/literals"
)

func someFormula(source *rand.Rand, clauses int) api.Formula {
	f := api.Formula{Vars: api.MaxVars}
	for range clauses {
		clause := source.Perm(f.Vars)[:3]
		for i := range clause {
			clause[i] = (clause[i] + 1) * (1 - 2*source.IntN(2))
		}
		f.Clauses = append(f.Clauses, clause)
	}
	return f
}

func sameFinding(a, b finding) bool {
	return a.sat == b.sat && a.truth == b.truth && slices.Equal(a.lemmas, b.lemmas)
}

// However many workers there are, each part's finding stands at the part's place, up to the first with an assignment.
func TestFindingsStandAtTheirParts(t *testing.T) {
	source := rand.New(rand.NewPCG(1, 2))
	firsts := map[int]bool{}
	for range 30 {
		f := someFormula(source, 70+source.IntN(30))
		for k := range api.MaxSplit + 1 {
			var want []finding
			first := -1
			for i, cube := range cubeSets(f, k) {
				want = append(want, find(f, cube))
				if want[i].sat && first < 0 {
					first = i
				}
			}
			firsts[first] = true
			for workers := 1; workers <= api.MaxWorkers; workers++ {
				got := findAll(f, cubeSets(f, k), workers)
				if len(got) != len(want) {
					t.Fatalf("%d findings of %d parts", len(got), len(want))
				}
				for i := range want {
					if (first < 0 || i <= first) && !sameFinding(got[i], want[i]) {
						t.Fatalf("%d workers: part %d of %v: %v, want %v", workers, i, f, got[i], want[i])
					}
				}
			}
		}
	}
	if len(firsts) < 5 || !firsts[-1] || !firsts[0] {
		t.Errorf("the first parts with an assignment are %v: these say too little", firsts)
	}
}

func TestFirstPartCounts(t *testing.T) {
	// The variables 1 to 5 are the heaviest; each of their assignments is one that makes the formula true.
	f := api.Formula{Vars: 8, Clauses: [][]int{{1, -1}, {2, -2}, {3, -3}, {4, -4}, {5, -5}}}
	for forbidden := range 32 {
		for workers := 1; workers <= api.MaxWorkers; workers++ {
			truth, sat := Run(f, 5, workers, func(literals.Set) { t.Errorf("a lemma of %v", f) })
			if want := cubeSets(f, 5)[forbidden]; !sat || !want.Within(truth) {
				t.Fatalf("%d workers, %d parts forbidden: %v, %v, want %v", workers, forbidden, truth.List(), sat, want.List())
			}
		}
		f.Clauses = append(f.Clauses, cubeSets(f, 5)[forbidden].Opposites().List())
	}
}

// steps: the lemmas that are told; each must follow from the clauses and those ahead of it, and the one without literals be the last.
func steps(t *testing.T, f api.Formula, k, workers int) []literals.Set {
	t.Helper()
	known := follow.Of(f)
	var told []literals.Set
	truth, sat := Run(f, k, workers, func(lemma literals.Set) {
		refuted := false
		known.From(lemma.Opposites(), func(_, _ literals.Set) {}, func(literals.Set) { refuted = true })
		if !refuted {
			t.Fatalf("%v does not follow: step %d of %v", lemma.List(), len(told), f)
		}
		known.Add(lemma)
		told = append(told, lemma)
	})
	if sat || truth != 0 || slices.Index(told, 0) != len(told)-1 {
		t.Fatalf("of %v: %v, %v, %d steps, the end is %d", f, truth.List(), sat, len(told), slices.Index(told, 0))
	}
	return told
}

func TestStepsFollowDownToTheEnd(t *testing.T) {
	source := rand.New(rand.NewPCG(3, 4))
	for range 100 {
		f := someFormula(source, 150)
		for k := range api.MaxSplit + 1 {
			want := steps(t, f, k, 1)
			if got := steps(t, f, k, 1+source.IntN(api.MaxWorkers)); !slices.Equal(got, want) {
				t.Fatalf("the steps of %v hang on how many workers there are", f)
			}
		}
	}
}

// all18to20: clauses that cannot be true together, each with some other literals in front.
func all18to20(others ...int) [][]int {
	var clauses [][]int
	for number := range 8 {
		clauses = append(clauses, append(slices.Clone(others), signed([]int{18, 19, 20}, number)...))
	}
	return clauses
}

// Where the parting variables have nothing to do with the conflict, one part tells all; where only the heaviest has, one of each half.
func TestPartsThatAreForbiddenAlready(t *testing.T) {
	var heavy [][]int
	for v := 1; v < 6; v += 2 {
		heavy = append(heavy, slices.Repeat([][]int{{v, v + 1}}, 4)...)
	}
	for least, clauses := range [][][]int{all18to20(), append(all18to20(1), all18to20(-1)...)} {
		f := api.Formula{Vars: api.MaxVars, Clauses: append(slices.Clone(heavy), clauses...)}
		want := len(steps(t, f, least, 1))
		for k := least; k <= api.MaxSplit; k++ {
			if told := steps(t, f, k, 3); len(told) != want {
				t.Errorf("parted by %d, of which %d matter: %d steps, want %d", k, least, len(told), want)
			}
		}
	}
}

func TestStepsAreJoinedByHalves(t *testing.T) {
	f := api.Formula{Vars: 2, Clauses: [][]int{{1, 2}, {1, -2}, {-1, 2}, {-1, -2}}}
	// Each part falls to one clause at once; 1 and -1 are then the halves of all.
	var want []literals.Set
	for _, step := range [][]int{{-1, -2}, {-1, 2}, {1, -2}, {1, 2}, {-1}, {1}, {}} {
		want = append(want, literals.Of(step))
	}
	if got := steps(t, f, 2, 2); !slices.Equal(got, want) {
		t.Errorf("the steps are %v, want %v", got, want)
	}
}
