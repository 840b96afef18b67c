package phalanx

import (
	"math"
	"math/rand/v2"
	"runtime"
	"slices"
	"strconv"
	"sync"
	"testing"

	"phalanx/api"
)

// holdFleet tells whether Fleet finds an assignment; what it answers must be as P10 says.
func holdFleet(t *testing.T, f api.Formula, k, workers int) bool {
	t.Helper()
	a, e := Fleet(f, k, workers)
	return holdAnswer(t, "P10: parted by "+strconv.Itoa(k)+", "+strconv.Itoa(workers)+" workers: Fleet", f, a, e)
}

// holdSmallFleet asks also what takes long at great formulas, as holdSmallSolve does.
func holdSmallFleet(t *testing.T, f api.Formula, k, workers int, sat bool) {
	t.Helper()
	if got := holdFleet(t, f, k, workers); got != sat {
		t.Fatalf("P10: Fleet(%v, %d, %d) answers %v, want %v", f, k, workers, got, sat)
	}
	if a, _ := Fleet(f, k, workers); !sat {
		if n, e := plainCheck(f, a.Proof); e != api.OK || n != len(a.Proof) {
			t.Fatalf("P10: Fleet(%v, %d, %d): the proof %v is none: %d, %d", f, k, workers, a.Proof, n, e)
		}
	}
}

// splits: by how many variables a formula may be parted, none first.
func splits(f api.Formula) int { return min(f.Vars, api.MaxSplit) + 1 }

func someWorkers(source *rand.Rand) int { return 1 + source.IntN(api.MaxWorkers) }

func TestP10Edges(t *testing.T) {
	for i, c := range edges() {
		for k := range splits(c.f) {
			for workers := 1; workers <= api.MaxWorkers; workers++ {
				if sat := holdFleet(t, c.f, k, workers); sat != c.sat {
					t.Errorf("P10: case %d: Fleet(%.80v, %d, %d) answers %v, want %v", i, c.f, k, workers, sat, c.sat)
				}
			}
		}
	}
}

// A proof ends with its only step without literals, also where each part has one of its own.
func TestP10ClauseWithoutLiterals(t *testing.T) {
	f := api.Formula{Vars: 5, Clauses: [][]int{{1}, {}, {-2, 3, 4, 5}}}
	for k := range splits(f) {
		if a, e := Fleet(f, k, 3); a.Sat || !sameLists(a.Proof, [][]int{{}}) || e != api.OK {
			t.Errorf("P10: Fleet(%v, %d, 3) = %v, %d", f, k, a, e)
		}
	}
}

func TestP10WrongNumbers(t *testing.T) {
	numbers := []int{math.MinInt, math.MinInt + 1, -2, -1, 0, 1, 2, 3, 4, 5, 6, 7, 8, 9, 20, 63, 64, 1 << 32, 1 << 62, math.MaxInt}
	for _, vars := range []int{0, 1, 4, 5, 6, 20} {
		for _, clauses := range [][][]int{nil, {{}}} {
			f := api.Formula{Vars: vars, Clauses: clauses}
			for _, k := range numbers {
				for _, workers := range numbers {
					right := k >= 0 && k <= 5 && k <= vars && workers >= 1 && workers <= 8
					a, e := Fleet(f, k, workers)
					if right {
						if holdAnswer(t, "P10: Fleet", f, a, e) != (len(clauses) == 0) {
							t.Errorf("P10: Fleet(%v, %d, %d) = %v", f, k, workers, a)
						}
					} else if e != api.ErrArg || a.Sat || len(a.Model)+len(a.Proof) != 0 {
						t.Errorf("P10: Fleet(%v, %d, %d) = %v, %d, want ErrArg", f, k, workers, a, e)
					}
				}
			}
		}
	}
}

func TestP4FleetOfFaultyFormulas(t *testing.T) {
	for _, c := range faultyFormulas() {
		for _, k := range []int{-1, 0, 1, api.MaxSplit, api.MaxSplit + 1} {
			for _, workers := range []int{-1, 0, 1, api.MaxWorkers, api.MaxWorkers + 1} {
				if a, e := Fleet(c.f, k, workers); e != c.e || a.Sat || len(a.Model)+len(a.Proof) != 0 {
					t.Errorf("P4: Fleet(%.60v, %d, %d) = %v, %d, want %d", c.f, k, workers, a, e, c.e)
				}
			}
		}
	}
}

func TestP10AllSmallFormulas(t *testing.T) {
	// Doubles and opposites aside there are nine clauses.
	clauses := [][]int{nil, {1}, {-1}, {2}, {-2}, {1, 2}, {1, -2}, {-1, 2}, {-1, -2}}
	for number := range 1 << len(clauses) {
		f := api.Formula{Vars: 2}
		for i, clause := range clauses {
			if number>>i&1 == 1 {
				f.Clauses = append(f.Clauses, clause)
			}
		}
		sat := plainCount(f) > 0
		for k := range splits(f) {
			for _, workers := range []int{1, 2, 3, api.MaxWorkers} {
				holdSmallFleet(t, f, k, workers, sat)
			}
		}
	}
	lists := allLists(2, 2)
	for _, first := range lists {
		for _, second := range lists {
			for i, third := range lists {
				f := api.Formula{Vars: 2, Clauses: [][]int{first, second, third}}
				holdSmallFleet(t, f, i%3, 1+i%api.MaxWorkers, plainCount(f) > 0)
			}
		}
	}
}

func TestP10AgainstAllAssignments(t *testing.T) {
	source := rand.New(rand.NewPCG(23, 24))
	const times = 500
	can := 0
	for range times {
		vars := 1 + source.IntN(9)
		f := shortClauses(source, vars, source.IntN(6*vars), 4)
		sat := plainCount(f) > 0
		if sat {
			can++
		}
		for k := range splits(f) {
			holdSmallFleet(t, f, k, someWorkers(source), sat)
		}
	}
	if can < times/10 || can > times*9/10 {
		t.Errorf("%d of %d formulas can be true: these say too little", can, times)
	}
}

func TestP10HardFormulas(t *testing.T) {
	for i, c := range hardFormulas() {
		for k := range splits(c.f) {
			for _, workers := range []int{1, 3, api.MaxWorkers} {
				if sat := holdFleet(t, c.f, k, workers); sat != c.sat {
					t.Errorf("P10: hard formula %d: Fleet(%d, %d) answers %v, want %v", i, k, workers, sat, c.sat)
				}
			}
		}
	}
}

// Of all assignments of seven variables each is left over once, as the only one: it may be in any of the parts.
func TestP10TheOnlyAssignment(t *testing.T) {
	for at, left := range allSigns(1, 7) {
		f := api.Formula{Vars: 7, Clauses: slices.Delete(allSigns(1, 7), at, at+1)}
		want := slices.Clone(left)
		for i := range want {
			want[i] = -want[i]
		}
		for k := range splits(f) {
			workers := 1 + (at+k)%api.MaxWorkers
			if a, e := Fleet(f, k, workers); !a.Sat || !slices.Equal(a.Model, want) || e != api.OK {
				t.Errorf("P10: Fleet of all signs but %v, %d, %d = %v, %d", left, k, workers, a, e)
			}
		}
	}
}

func sameAnswer(a, b api.Answer) bool {
	return a.Sat == b.Sat && slices.Equal(a.Model, b.Model) && sameLists(a.Proof, b.Proof)
}

func TestP2FleetIsNewMemory(t *testing.T) {
	for _, f := range []api.Formula{{}, {Vars: 20}, {Vars: 2, Clauses: [][]int{{}}}, circle(20, 10, 1), circle(20, 8, 2), pigeons(5, 4), {Vars: 3, Clauses: [][]int{{-1}, {-2}, {3}}}} {
		for k := range splits(f) {
			before := copied(f.Clauses)
			first, _ := Fleet(f, k, 3)
			want := api.Answer{Sat: first.Sat, Model: slices.Clone(first.Model), Proof: copied(first.Proof)}
			for range 2 {
				again, _ := Fleet(f, k, 3)
				if !sameAnswer(again, want) {
					t.Fatalf("P2: Fleet(%v, %d, 3) asked again = %v, first %v", f, k, again, want)
				}
				holdRooms(t, append(whole(again.Proof), again.Model))
			}
			if !sameAnswer(first, want) || !sameLists(f.Clauses, before) {
				t.Fatalf("P2: what Fleet(%v, %d, 3) answers shares room with another answer, or with the formula", f, k)
			}
		}
	}
}

// The workers get all the processors, some, or one alone, with others that ask at the same time: the answer is always the same.
func TestP2FleetUnderEverySchedule(t *testing.T) {
	source := rand.New(rand.NewPCG(25, 26))
	formulas := []api.Formula{circle(20, 10, 1), circle(20, 10, 2), pigeons(5, 4), pigeons(4, 5)}
	for range 6 {
		formulas = append(formulas, evenClauses(source, 90, 3))
	}
	defer runtime.GOMAXPROCS(runtime.GOMAXPROCS(0))
	for _, f := range formulas {
		k, workers := 1+source.IntN(api.MaxSplit), 2+source.IntN(api.MaxWorkers-1)
		want, _ := Fleet(f, k, workers)
		for _, processors := range []int{1, 2, 3, 8} {
			runtime.GOMAXPROCS(processors)
			wrong := make([]bool, 8)
			var group sync.WaitGroup
			for i := range wrong {
				group.Add(1)
				go func() {
					defer group.Done()
					got, e := Fleet(f, k, workers)
					wrong[i] = e != api.OK || !sameAnswer(got, want)
				}()
			}
			group.Wait()
			if slices.Contains(wrong, true) {
				t.Errorf("P2: Fleet(%v, %d, %d) is answered otherwise on %d processors", f, k, workers, processors)
			}
		}
	}
}

// holdBoth tells an answer of Fleet; Solve must agree on whether there is an assignment.
func holdBoth(t *testing.T, source *rand.Rand, f api.Formula) api.Answer {
	t.Helper()
	k, workers := source.IntN(splits(f)), someWorkers(source)
	sat := holdFleet(t, f, k, workers)
	if want := holdSolve(t, f); sat != want {
		t.Fatalf("P11: Fleet(%v, %d, %d) answers %v, Solve %v", f, k, workers, sat, want)
	}
	a, _ := Fleet(f, k, workers)
	return a
}

func TestP11SolveAndFleetAgree(t *testing.T) {
	source := rand.New(rand.NewPCG(27, 28))
	count := map[bool]int{}
	for i := range 24 {
		f := evenClauses(source, 90, 3)
		if i%2 == 1 {
			f = evenClauses(source, 200, 4)
		}
		sat := holdSolve(t, f)
		count[sat]++
		for k := range splits(f) {
			for workers := 1; workers <= api.MaxWorkers; workers++ {
				if got := holdFleet(t, f, k, workers); got != sat {
					t.Errorf("P11: Fleet(%v, %d, %d) answers %v, Solve %v", f, k, workers, got, sat)
				}
			}
		}
	}
	if count[true] < 4 || count[false] < 4 {
		t.Errorf("%v: these say too little", count)
	}
}

func TestP11FleetUnderOtherNames(t *testing.T) {
	source := rand.New(rand.NewPCG(29, 30))
	for range 40 {
		f := evenClauses(source, 85+source.IntN(10), 3)
		sat := holdBoth(t, source, f).Sat
		for range 5 {
			if again := holdBoth(t, source, renamed(source, f)).Sat; again != sat {
				t.Errorf("P11: %v can be true: %v; under other names: %v", f, sat, again)
			}
		}
		double := api.Formula{Vars: f.Vars, Clauses: slices.Concat(f.Clauses, f.Clauses)}
		if again := holdBoth(t, source, double).Sat; again != sat {
			t.Errorf("P11: %v can be true: %v; with each clause twice: %v", f, sat, again)
		}
	}
}

func TestP11FleetWithClausesThatAreTrue(t *testing.T) {
	source := rand.New(rand.NewPCG(31, 32))
	for range 20 {
		f := evenClauses(source, 60, 3)
		for a := holdBoth(t, source, f); a.Sat && len(f.Clauses) < 120; {
			clause := evenClauses(source, 1, 3).Clauses[0]
			clause[1] = a.Model[source.IntN(f.Vars)]
			f.Clauses = append(f.Clauses, clause)
			if a = holdBoth(t, source, f); !a.Sat {
				t.Fatalf("P11: %v cannot be true, but could without the last clause", f)
			}
		}
	}
}

func TestP11FleetOneByOne(t *testing.T) {
	source := rand.New(rand.NewPCG(33, 34))
	for range 80 {
		f := shortClauses(source, 1+source.IntN(7), 1+source.IntN(9), 4)
		left := plainCount(f)
		for a := holdBoth(t, source, f); a.Sat; a = holdBoth(t, source, f) {
			for i := range a.Model {
				a.Model[i] = -a.Model[i]
			}
			f.Clauses = append(f.Clauses, a.Model)
			left--
		}
		if left != 0 {
			t.Errorf("P11: of the assignments %d are left, once each found one is forbidden: %v", left, f)
		}
	}
}
