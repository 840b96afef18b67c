package phalanx

import (
	"math"
	"runtime"
	"slices"
	"strings"
	"sync"
	"testing"
	"time"

	"phalanx/api"
)

func sameLists(a, b [][]int) bool {
	return slices.EqualFunc(a, b, func(x, y []int) bool { return slices.Equal(x, y) })
}

func copied(lists [][]int) [][]int {
	var out [][]int
	for _, list := range lists {
		out = append(out, slices.Clone(list))
	}
	return out
}

// whole is a list with its spare room.
func whole[T any](list []T) []T { return list[:cap(list)] }

// roomy is the formula of example 2, with room behind each list that others may be using.
func roomy() (api.Formula, [][]int) {
	rooms := [][]int{{1, -2, 77, 77, 77}, {2, 88, 88}, {1, 2, 99}, {66}, {55}}
	clauses := [][]int{rooms[0][:2], rooms[1][:1], rooms[2][:2], rooms[3], rooms[4]}
	return api.Formula{Vars: 2, Clauses: clauses[:3]}, rooms
}

func TestP2NothingHandedInIsWritten(t *testing.T) {
	f, rooms := roomy()
	before := copied(rooms)
	givenRoom, proofRoom := []int{1, 2, 44}, [][]int{{1, 33}, {}, {22}}
	for range 2 {
		Fault(f)
		Scores(f)
		Order(f)
		Shares(f, 100)
		Propagate(f, givenRoom[:2])
		Check(f, [][]int{proofRoom[0][:1], proofRoom[1]})
		Solve(f)
		Cubes(f, 2)
		Fleet(f, 2, 2)
	}
	if !sameLists(rooms, before) || !sameLists(f.Clauses[:5], [][]int{{1, -2}, {2}, {1, 2}, {66}, {55}}) {
		t.Errorf("P2: the formula handed in was written into: %v", rooms)
	}
	if !slices.Equal(givenRoom, []int{1, 2, 44}) || !sameLists(proofRoom, [][]int{{1, 33}, {}, {22}}) {
		t.Errorf("P2: other lists handed in were written into: %v, %v", givenRoom, proofRoom)
	}
}

func TestP2AnswersAreNewMemory(t *testing.T) {
	f, _ := roomy()
	for range 3 {
		scores, _ := Scores(f)
		order, _ := Order(f)
		shares, _ := Shares(f, 9)
		given := []int{2, 2}
		follow, _, _ := Propagate(f, given)
		if !slices.Equal(scores, []float64{0.5, 0, 0.75, 0.25}) || !slices.Equal(order, []int{2, 1}) || !slices.Equal(shares, []int{3, 6}) || !slices.Equal(follow, []int{1, 2}) {
			t.Fatalf("P2: asked again: %v, %v, %v, %v", scores, order, shares, follow)
		}
		for i := range whole(scores) {
			whole(scores)[i] = math.NaN()
		}
		for _, list := range [][]int{order, shares, follow} {
			for i := range whole(list) {
				whole(list)[i] = 777
			}
		}
		if !slices.Equal(given, []int{2, 2}) {
			t.Fatalf("P2: an answer stands in what was given")
		}
	}
}

func TestP2ParsedClausesShareNoRoom(t *testing.T) {
	var text strings.Builder
	text.WriteString("p cnf 20 60\n")
	// Long clauses with short ones behind them, which would find room in what the long ones leave.
	length := func(i int) int { return 8 * i % 21 }
	for i := range 60 {
		text.WriteString(strings.Repeat("7 ", length(i)) + "0\n")
	}
	for range 2 {
		f, e, _ := Parse(text.String())
		if e != api.OK || len(f.Clauses) != 60 {
			t.Fatalf("P3: Parse = %v, %d", f, e)
		}
		for i, clause := range f.Clauses {
			for _, literal := range clause {
				if literal != 7 || len(clause) != length(i) {
					t.Fatalf("P2: clause %d is %v, after those ahead of it were written over", i, clause)
				}
			}
			for j := range whole(clause) {
				whole(clause)[j] = 1000 + i
			}
		}
		for i, clause := range f.Clauses {
			for _, n := range whole(clause) {
				if n != 1000+i {
					t.Fatalf("P2: the room of clause %d was written over by that of another", i)
				}
			}
		}
	}
}

// holdRooms writes over each list, and what is behind it; none may be seen in another.
func holdRooms(t *testing.T, lists [][]int) {
	t.Helper()
	for i, list := range lists {
		for j := range whole(list) {
			whole(list)[j] = 1000 + i
		}
	}
	for i, list := range lists {
		for _, n := range whole(list) {
			if n != 1000+i {
				t.Fatalf("P2: the room of list %d was written over by that of another", i)
			}
		}
	}
}

func TestP2SolvedIsNewMemory(t *testing.T) {
	for _, f := range []api.Formula{{}, {Vars: 20}, {Vars: 2, Clauses: [][]int{{}}}, circle(20, 8, 1), circle(20, 8, 2), pigeons(5, 4), {Vars: 3, Clauses: [][]int{{-1}, {-2}, {3}}}} {
		before := copied(f.Clauses)
		first, _ := Solve(f)
		want := api.Answer{Sat: first.Sat, Model: slices.Clone(first.Model), Proof: copied(first.Proof)}
		for range 2 {
			again, _ := Solve(f)
			if again.Sat != want.Sat || !slices.Equal(again.Model, want.Model) || !sameLists(again.Proof, want.Proof) {
				t.Fatalf("P2: Solve(%v) asked again = %v, first %v", f, again, want)
			}
			holdRooms(t, append(whole(again.Proof), again.Model))
		}
		if !slices.Equal(first.Model, want.Model) || !sameLists(first.Proof, want.Proof) || !sameLists(f.Clauses, before) {
			t.Fatalf("P2: what Solve(%v) answers shares room with another answer, or with the formula", f)
		}
	}
}

func TestP2SameAnswersFromManyAtOnce(t *testing.T) {
	f, _ := roomy()
	hard := circle(20, 8, 1)
	want, _ := Solve(hard)
	wrong := make([]bool, 16)
	var group sync.WaitGroup
	for i := range wrong {
		group.Add(1)
		go func() {
			defer group.Done()
			g, _, _ := Parse("p cnf 2 3\n1 -2 0 2 0 1 2 0")
			scores, _ := Scores(f)
			order, _ := Order(f)
			shares, _ := Shares(f, 9)
			follow, conflict, _ := Propagate(f, []int{2})
			steps, e := Check(f, [][]int{{1}, {2}, {-1}})
			solved, _ := Solve(f)
			proved, _ := Solve(hard)
			wrong[i] = !slices.Equal(solved.Model, []int{1, 2}) || !sameLists(proved.Proof, want.Proof) || !slices.Equal(follow, []int{1, 2}) || conflict || steps != 2 || e != api.ErrStep || !sameLists(g.Clauses, f.Clauses) || !slices.Equal(scores, []float64{0.5, 0, 0.75, 0.25}) || !slices.Equal(order, []int{2, 1}) || !slices.Equal(shares, []int{3, 6})
		}()
	}
	group.Wait()
	if slices.Contains(wrong, true) {
		t.Errorf("P2: of many that ask at once some are answered otherwise")
	}
}

func TestP2NothingGoesOnRunning(t *testing.T) {
	f, _ := roomy()
	hard := circle(20, 10, 2)
	before := runtime.NumGoroutine()
	for range 20 {
		Parse("p cnf 2 3\n1 -2 0 2 0 1 2 0")
		Fault(f)
		allCalls(f)
		Propagate(f, []int{1})
		Check(f, [][]int{{1}, {}})
		Cubes(f, 2)
		Fleet(f, 2, api.MaxWorkers)
		Fleet(hard, api.MaxSplit, api.MaxWorkers)
	}
	// One that has told that it is done may need a moment to be gone.
	for tries := 0; runtime.NumGoroutine() > before && tries < 200; tries++ {
		time.Sleep(10 * time.Millisecond)
	}
	if now := runtime.NumGoroutine(); now > before {
		t.Errorf("P2: %d goroutines ran ahead of the calls, %d behind them", before, now)
	}
}

func TestP1EveryCallEnds(t *testing.T) {
	numbers := []int{math.MinInt, math.MinInt + 1, -21, -1, 0, 1, 20, 21, math.MaxInt}
	for _, vars := range numbers {
		for _, n := range numbers {
			for _, clauses := range [][][]int{nil, {nil}, {{n}}, {{}, {1, n}}, make([][]int, 100000), {make([]int, 100000)}} {
				f := api.Formula{Vars: vars, Clauses: clauses}
				Fault(f)
				allCalls(f)
				if shares, e := Shares(f, n); e != api.OK && len(shares) != 0 {
					t.Errorf("P1: an error and %v", shares)
				}
				Propagate(f, []int{n})
				Check(f, [][]int{{n}, nil})
				Cubes(f, n)
				Fleet(f, n, n)
			}
		}
	}
}

func TestP1EveryTextEnds(t *testing.T) {
	for _, piece := range []string{"c", "\n", " ", "p ", "0 ", "1 ", "-", "9", "\xff", "c\n", "\x00"} {
		for _, begin := range []string{"", "p cnf 1 1\n", "p cnf 20 200\n", "p cnf "} {
			text := begin + strings.Repeat(piece, 1<<18)
			if f, e, at := Parse(text); e == api.OK || at < 1 || f.Vars != 0 || len(f.Clauses) != 0 {
				t.Errorf("P1: Parse of %q and many %q = %v, %d, %d", begin, piece, f, e, at)
			}
		}
	}
}
