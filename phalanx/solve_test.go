package phalanx

import (
	"math/bits"
	"math/rand/v2"
	"slices"
	"testing"

	"phalanx/api"
)

// makesTrue tells whether an assignment has a literal of each variable in turn, and makes each clause true.
func makesTrue(f api.Formula, assignment []int) bool {
	if len(assignment) != f.Vars {
		return false
	}
	for i, literal := range assignment {
		if literal != i+1 && literal != -(i+1) {
			return false
		}
	}
	for _, clause := range f.Clauses {
		isTrue := func(literal int) bool { return slices.Contains(assignment, literal) }
		if !slices.ContainsFunc(clause, isTrue) {
			return false
		}
	}
	return true
}

// plainCount tries all assignments: how many make the formula true?
func plainCount(f api.Formula) int {
	count := 0
	for number := range 1 << f.Vars {
		assignment := make([]int, f.Vars)
		for i := range assignment {
			assignment[i] = i + 1
			if number>>i&1 == 1 {
				assignment[i] = -(i + 1)
			}
		}
		if makesTrue(f, assignment) {
			count++
		}
	}
	return count
}

// holdAnswer tells whether an assignment was found; what is answered must be as P8 says.
func holdAnswer(t *testing.T, call string, f api.Formula, a api.Answer, e api.Errno) bool {
	t.Helper()
	if e != api.OK {
		t.Fatalf("%s(%v): error %d", call, f, e)
	}
	if a.Sat {
		if !makesTrue(f, a.Model) || len(a.Proof) != 0 {
			t.Fatalf("%s(%v): the assignment %v, the proof %v", call, f, a.Model, a.Proof)
		}
		return true
	}
	n, e := Check(f, a.Proof)
	if e != api.OK || n != len(a.Proof) || len(a.Proof[n-1]) != 0 || len(a.Model) != 0 {
		t.Fatalf("%s(%v): of %d steps of the proof %d are right, error %d; the assignment %v", call, f, len(a.Proof), n, e, a.Model)
	}
	return false
}

func holdSolve(t *testing.T, f api.Formula) bool {
	t.Helper()
	a, e := Solve(f)
	return holdAnswer(t, "P8: Solve", f, a, e)
}

// holdSmallSolve asks also what takes long at great formulas: all assignments, and the plain way to check a proof.
func holdSmallSolve(t *testing.T, f api.Formula) bool {
	t.Helper()
	sat := holdSolve(t, f)
	if want := plainCount(f) > 0; sat != want {
		t.Fatalf("P8: Solve(%v) answers %v, want %v", f, sat, want)
	}
	if a, _ := Solve(f); !sat {
		if n, e := plainCheck(f, a.Proof); e != api.OK || n != len(a.Proof) {
			t.Fatalf("P8: Solve(%v): the proof %v is none: %d, %d", f, a.Proof, n, e)
		}
	}
	return sat
}

// pigeons: birds, each of which needs a hole of its own.
func pigeons(birds, holes int) api.Formula {
	f := api.Formula{Vars: birds * holes}
	in := func(bird, hole int) int { return bird*holes + hole + 1 }
	for bird := range birds {
		var somewhere []int
		for hole := range holes {
			somewhere = append(somewhere, in(bird, hole))
			for other := range bird {
				f.Clauses = append(f.Clauses, []int{-in(bird, hole), -in(other, hole)})
			}
		}
		f.Clauses = append(f.Clauses, somewhere)
	}
	return f
}

// parity: the clauses that are true if, of the variables, the number of true ones is odd, or is not.
func parity(variables []int, odd bool) [][]int {
	var clauses [][]int
	for number := range 1 << len(variables) {
		if bits.OnesCount(uint(number))%2 == 1 == odd {
			continue
		}
		clause := slices.Clone(variables)
		for i := range clause {
			if number>>i&1 == 1 {
				clause[i] = -clause[i]
			}
		}
		clauses = append(clauses, clause)
	}
	return clauses
}

// circle: each variable stands in two of the parities, of which so many are odd; they go together if that number is even.
func circle(vars, parities, odd int) api.Formula {
	f := api.Formula{Vars: vars}
	places := make([][]int, parities)
	for i := range vars {
		here := i % parities
		there := (here + 1 + i/parities) % parities
		places[here] = append(places[here], i+1)
		places[there] = append(places[there], i+1)
	}
	for i, variables := range places {
		f.Clauses = append(f.Clauses, parity(variables, i < odd)...)
	}
	return f
}

func TestP8Examples(t *testing.T) {
	if holdSmallSolve(t, api.Formula{Vars: 2, Clauses: allSigns(1, 2)}) {
		t.Errorf("P8: all signs of two variables can be true")
	}
	if !holdSmallSolve(t, api.Formula{Vars: 3}) {
		t.Errorf("P8: a formula without clauses cannot be true")
	}
	f := api.Formula{Vars: 2, Clauses: [][]int{{1}, {}}}
	if a, _ := Solve(f); a.Sat || !sameLists(a.Proof, [][]int{{}}) {
		t.Errorf("P8: Solve of a clause without literals = %v", a)
	}
}

type known struct {
	f   api.Formula
	sat bool
}

func edges() []known {
	long, mixed := repeated(20, 20), append(repeated(20, 19), -20)
	var full []int
	for v := 1; v <= api.MaxVars; v++ {
		full = append(full, -v)
	}
	return []known{
		{api.Formula{Vars: 0, Clauses: nil}, true},
		{api.Formula{Vars: 0, Clauses: [][]int{{}}}, false},
		{api.Formula{Vars: 0, Clauses: make([][]int, 200)}, false},
		{api.Formula{Vars: 20, Clauses: nil}, true},
		{api.Formula{Vars: 20, Clauses: [][]int{{}}}, false},
		{api.Formula{Vars: 20, Clauses: [][]int{{1}, nil, {2}}}, false},
		{api.Formula{Vars: 1, Clauses: [][]int{{1}}}, true},
		{api.Formula{Vars: 1, Clauses: [][]int{{-1, -1, -1}}}, true},
		{api.Formula{Vars: 1, Clauses: [][]int{{1, 1}, {-1, -1, -1}}}, false},
		{api.Formula{Vars: 1, Clauses: [][]int{{1, -1}}}, true},
		{api.Formula{Vars: 1, Clauses: [][]int{{1, -1}, {-1}, {-1, 1, -1}}}, true},
		{api.Formula{Vars: 1, Clauses: [][]int{{1, -1}, {-1}, {1}}}, false},
		{api.Formula{Vars: 3, Clauses: [][]int{{2, -2, 3}, {3, 3, 1}, {-3}, {-1, -1, 2}}}, true},
		{api.Formula{Vars: 3, Clauses: [][]int{{2, -2, 3}, {3, 3, 1}, {-3}, {-1, -1, 2}, {-2, 3}}}, false},
		// Variables that stand in no clause have a literal that is true, too.
		{api.Formula{Vars: 20, Clauses: [][]int{{-7}}}, true},
		{api.Formula{Vars: 20, Clauses: [][]int{{-7}, {7}}}, false},
		{api.Formula{Vars: 20, Clauses: [][]int{long, mixed, full}}, true},
		{api.Formula{Vars: 20, Clauses: [][]int{long, repeated(-20, 20)}}, false},
		{api.Formula{Vars: 20, Clauses: slices.Repeat([][]int{mixed}, 200)}, true},
		{api.Formula{Vars: 20, Clauses: slices.Repeat([][]int{full}, 200)}, true},
		{api.Formula{Vars: 20, Clauses: append(slices.Repeat([][]int{full, mixed}, 99), []int{5}, []int{-5})}, false},
	}
}

func TestP8Edges(t *testing.T) {
	for i, c := range edges() {
		if sat := holdSolve(t, c.f); sat != c.sat {
			t.Errorf("P8: case %d: Solve(%.80v) answers %v, want %v", i, c.f, sat, c.sat)
		}
	}
}

func TestP8AllSmallFormulas(t *testing.T) {
	lists := allLists(2, 2)
	for _, first := range lists {
		for _, second := range lists {
			for _, third := range lists {
				holdSmallSolve(t, api.Formula{Vars: 2, Clauses: [][]int{first, second, third}})
			}
		}
	}
	// Doubles and opposites aside there are nine clauses.
	clauses := [][]int{nil, {1}, {-1}, {2}, {-2}, {1, 2}, {1, -2}, {-1, 2}, {-1, -2}}
	for number := range 1 << len(clauses) {
		f := api.Formula{Vars: 2}
		for i, clause := range clauses {
			if number>>i&1 == 1 {
				f.Clauses = append(f.Clauses, clause)
			}
		}
		holdSmallSolve(t, f)
	}
}

func TestP8AgainstAllAssignments(t *testing.T) {
	source := rand.New(rand.NewPCG(11, 12))
	const times = 1500
	sat := 0
	for range times {
		vars := 1 + source.IntN(9)
		if holdSmallSolve(t, shortClauses(source, vars, source.IntN(6*vars), 4)) {
			sat++
		}
	}
	if sat < times/10 || sat > times*9/10 {
		t.Errorf("%d of %d formulas can be true: these say too little", sat, times)
	}
}

// evenClauses: so many clauses, of just so many variables each.
func evenClauses(source *rand.Rand, number, length int) api.Formula {
	f := api.Formula{Vars: api.MaxVars}
	for range number {
		clause := source.Perm(api.MaxVars)[:length]
		for i := range clause {
			clause[i] = (clause[i] + 1) * (1 - 2*source.IntN(2))
		}
		f.Clauses = append(f.Clauses, clause)
	}
	return f
}

func TestP8AtTheLimits(t *testing.T) {
	source := rand.New(rand.NewPCG(13, 14))
	for _, size := range [][2]int{{90, 3}, {200, 4}} {
		const times = 100
		sat := 0
		for range times {
			if holdSolve(t, evenClauses(source, size[0], size[1])) {
				sat++
			}
		}
		if sat < times/10 || sat > times*9/10 {
			t.Errorf("%d of %d formulas can be true: these say too little", sat, times)
		}
	}
	for range 20 {
		// Each of these clauses forbids one of a million assignments.
		if !holdSolve(t, evenClauses(source, api.MaxClauses, api.MaxLength)) {
			t.Errorf("P8: 200 clauses of 20 variables each cannot be true")
		}
		if holdSolve(t, evenClauses(source, api.MaxClauses, 2)) {
			t.Errorf("P8: 200 clauses of two variables each can be true")
		}
	}
}

func hardFormulas() []known {
	return []known{
		{pigeons(4, 3), false}, {pigeons(5, 4), false}, {pigeons(10, 2), false}, {pigeons(19, 1), false}, {pigeons(2, 1), false},
		{pigeons(4, 5), true}, {pigeons(4, 4), true}, {pigeons(1, 20), true},
		{circle(20, 8, 1), false}, {circle(20, 8, 2), true},
		{circle(18, 6, 3), false}, {circle(18, 6, 4), true},
		{circle(20, 10, 5), false}, {circle(20, 10, 6), true},
		{api.Formula{Vars: 20, Clauses: allSigns(1, 7)}, false},
		{api.Formula{Vars: 20, Clauses: allSigns(14, 20)}, false},
		{api.Formula{Vars: 20, Clauses: allSigns(14, 20)[1:]}, true},
	}
}

func TestP8HardFormulas(t *testing.T) {
	for i, c := range hardFormulas() {
		if sat := holdSolve(t, c.f); sat != c.sat {
			t.Errorf("P8: hard formula %d: Solve answers %v, want %v", i, sat, c.sat)
		}
	}
}

// Of all assignments of seven variables each is left over once, as the only one.
func TestP8TheOnlyAssignment(t *testing.T) {
	for at, left := range allSigns(1, 7) {
		f := api.Formula{Vars: 7, Clauses: slices.Delete(allSigns(1, 7), at, at+1)}
		want := slices.Clone(left)
		for i := range want {
			want[i] = -want[i]
		}
		if a, e := Solve(f); !a.Sat || !slices.Equal(a.Model, want) || e != api.OK {
			t.Errorf("P8: Solve of all signs but %v = %v, %d", left, a, e)
		}
	}
}

func TestP4SolveOfFaultyFormulas(t *testing.T) {
	for _, c := range faultyFormulas() {
		if a, e := Solve(c.f); e != c.e || a.Sat || len(a.Model)+len(a.Proof) != 0 {
			t.Errorf("P4: Solve(%.60v) = %v, %d, want %d", c.f, a, e, c.e)
		}
	}
}

// renamed: other names for the variables, literals of some turned throughout, clauses and literals in another order, and some clauses twice.
func renamed(source *rand.Rand, f api.Formula) api.Formula {
	names := source.Perm(f.Vars)
	for i := range names {
		names[i] = (names[i] + 1) * (1 - 2*source.IntN(2))
	}
	g := api.Formula{Vars: f.Vars, Clauses: copied(f.Clauses)}
	for _, clause := range g.Clauses {
		for i, literal := range clause {
			if literal > 0 {
				clause[i] = names[literal-1]
			} else {
				clause[i] = -names[-literal-1]
			}
		}
		source.Shuffle(len(clause), func(i, j int) { clause[i], clause[j] = clause[j], clause[i] })
		if source.IntN(4) == 0 {
			g.Clauses = append(g.Clauses, clause)
		}
	}
	source.Shuffle(len(g.Clauses), func(i, j int) { g.Clauses[i], g.Clauses[j] = g.Clauses[j], g.Clauses[i] })
	return g
}

func TestP11OtherNames(t *testing.T) {
	source := rand.New(rand.NewPCG(15, 16))
	for range 60 {
		f := evenClauses(source, 85+source.IntN(10), 3)
		sat := holdSolve(t, f)
		for range 5 {
			if again := holdSolve(t, renamed(source, f)); again != sat {
				t.Errorf("P11: %v can be true: %v; under other names: %v", f, sat, again)
			}
		}
	}
}

// A clause that the assignment found makes true takes nothing away that matters.
func TestP11ClausesThatAreTrue(t *testing.T) {
	source := rand.New(rand.NewPCG(17, 18))
	for range 60 {
		f := evenClauses(source, 60, 3)
		for a, _ := Solve(f); a.Sat && len(f.Clauses) < 120; a, _ = Solve(f) {
			clause := evenClauses(source, 1, 3).Clauses[0]
			clause[1] = a.Model[source.IntN(f.Vars)]
			f.Clauses = append(f.Clauses, clause)
			if !holdSolve(t, f) {
				t.Fatalf("P11: %v cannot be true, but could without the last clause", f)
			}
		}
	}
}

func TestP11AssignmentsOneByOne(t *testing.T) {
	source := rand.New(rand.NewPCG(19, 20))
	for range 150 {
		f := shortClauses(source, 1+source.IntN(7), 1+source.IntN(9), 4)
		left := plainCount(f)
		for ; holdSolve(t, f); left-- {
			a, _ := Solve(f)
			for i := range a.Model {
				a.Model[i] = -a.Model[i]
			}
			f.Clauses = append(f.Clauses, a.Model)
		}
		if left != 0 {
			t.Errorf("P11: of the assignments %d are left, once each found one is forbidden: %v", left, f)
		}
	}
}
