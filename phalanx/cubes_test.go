package phalanx

import (
	"math"
	"math/rand/v2"
	"slices"
	"testing"

	"phalanx/api"
)

// plainCubes goes down the variables: all lists with the first one as v stand ahead of those with it as -v.
func plainCubes(variables []int) [][]int {
	if len(variables) == 0 {
		return [][]int{{}}
	}
	var lists [][]int
	for _, literal := range []int{variables[0], -variables[0]} {
		for _, rest := range plainCubes(variables[1:]) {
			lists = append(lists, append([]int{literal}, rest...))
		}
	}
	return lists
}

func TestP9Examples(t *testing.T) {
	f, _ := roomy()
	for k, want := range [][][]int{{{}}, {{2}, {-2}}, {{2, 1}, {2, -1}, {-2, 1}, {-2, -1}}} {
		if got, e := Cubes(f, k); !sameLists(got, want) || e != api.OK {
			t.Errorf("P9: Cubes(%v, %d) = %v, %d, want %v", f, k, got, e, want)
		}
	}
}

func TestP9AgainstOrder(t *testing.T) {
	source := rand.New(rand.NewPCG(21, 22))
	for vars := 1; vars <= api.MaxVars; vars++ {
		for range 20 {
			f := shortClauses(source, vars, source.IntN(30), 4)
			order, _ := Order(f)
			for k := range min(vars, api.MaxSplit) + 1 {
				want := plainCubes(order[:k])
				if got, e := Cubes(f, k); !sameLists(got, want) || e != api.OK || len(got) != 1<<k {
					t.Fatalf("P9: Cubes(%v, %d) = %v, %d, want %v", f, k, got, e, want)
				}
			}
		}
	}
}

func TestP9Edges(t *testing.T) {
	for _, f := range []api.Formula{{}, {Vars: 0, Clauses: [][]int{{}}}, {Vars: 20}, {Vars: 20, Clauses: make([][]int, 200)}} {
		if got, e := Cubes(f, 0); len(got) != 1 || len(got[0]) != 0 || e != api.OK {
			t.Errorf("P9: Cubes(%.60v, 0) = %v, %d", f, got, e)
		}
	}
	got, e := Cubes(api.Formula{Vars: api.MaxSplit}, api.MaxSplit)
	if e != api.OK || len(got) != 32 || !slices.Equal(got[0], []int{1, 2, 3, 4, 5}) || !slices.Equal(got[1], []int{1, 2, 3, 4, -5}) || !slices.Equal(got[16], []int{-1, 2, 3, 4, 5}) || !slices.Equal(got[31], []int{-1, -2, -3, -4, -5}) {
		t.Errorf("P9: Cubes of five variables = %v, %d", got, e)
	}
}

func TestP9WrongNumbers(t *testing.T) {
	wrong := []int{math.MinInt, math.MinInt + 1, -6, -1, api.MaxSplit + 1, 20, 32, 63, 64, 1 << 32, 1 << 62, math.MaxInt}
	for vars := range api.MaxVars + 1 {
		f := api.Formula{Vars: vars}
		for _, k := range append(slices.Clone(wrong), vars+1) {
			if got, e := Cubes(f, k); len(got) != 0 || e != api.ErrArg {
				t.Errorf("P9: Cubes of %d variables, %d = %v, %d, want ErrArg", vars, k, got, e)
			}
		}
	}
}

// Each assignment is in just one part.
func TestP9PartsOfAll(t *testing.T) {
	f := api.Formula{Vars: 6, Clauses: [][]int{{6, -3}, {2}, {-3, -3}, {4, 5, 6}, {}}}
	for k := range api.MaxSplit + 1 {
		parts, _ := Cubes(f, k)
		for _, assignment := range allSigns(1, 6) {
			in := 0
			for _, part := range parts {
				if !slices.ContainsFunc(part, func(l int) bool { return !slices.Contains(assignment, l) }) {
					in++
				}
			}
			if in != 1 {
				t.Errorf("P9: %v is in %d of the parts %v", assignment, in, parts)
			}
		}
	}
}

func TestP4CubesOfFaultyFormulas(t *testing.T) {
	for _, c := range faultyFormulas() {
		for _, k := range []int{-1, 0, 1, api.MaxSplit, api.MaxSplit + 1} {
			if got, e := Cubes(c.f, k); e != c.e || len(got) != 0 {
				t.Errorf("P4: Cubes(%.60v, %d) = %v, %d, want %d", c.f, k, got, e, c.e)
			}
		}
	}
}

func TestP2CubesAreNewMemory(t *testing.T) {
	f := api.Formula{Vars: 7, Clauses: [][]int{{7, 2}, {-3}, {1, 5, 6}}}
	for k := range api.MaxSplit + 1 {
		first, _ := Cubes(f, k)
		want := copied(first)
		for range 3 {
			again, _ := Cubes(f, k)
			if !sameLists(again, want) {
				t.Fatalf("P2: Cubes(%d) asked again = %v, want %v", k, again, want)
			}
			holdRooms(t, whole(again))
			for i := range whole(again) {
				whole(again)[i] = nil
			}
		}
		if !sameLists(first, want) || !sameLists(f.Clauses, [][]int{{7, 2}, {-3}, {1, 5, 6}}) {
			t.Fatalf("P2: an answer of Cubes shares room with another, or with the formula")
		}
	}
}
