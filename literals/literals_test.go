package literals

import (
	"slices"
	"testing"

	"phalanx/api"
)

func TestEveryLiteralHasItsPlace(t *testing.T) {
	place := 0
	for v := 1; v <= api.MaxVars; v++ {
		for _, literal := range []int{v, -v} {
			if Place(literal) != place || at(place) != literal {
				t.Errorf("%d stands at %d, and there stands %d; want %d", literal, Place(literal), at(place), place)
			}
			one := Of([]int{literal, literal})
			if !slices.Equal(one.List(), []int{literal}) || !slices.Equal(one.Opposites().List(), []int{-literal}) || !one.Single() {
				t.Errorf("the set of %d is %v, with the opposite %v", literal, one.List(), one.Opposites().List())
			}
			place++
		}
	}
}

func TestSets(t *testing.T) {
	some := Of([]int{20, -3, 1, -20, 1})
	if !slices.Equal(some.List(), []int{1, -3, 20, -20}) || cap(some.List()) != 4 {
		t.Errorf("the list is %v", some.List())
	}
	if !slices.Equal(some.Opposites().List(), []int{-1, 3, 20, -20}) {
		t.Errorf("the opposites are %v", some.Opposites().List())
	}
	if !slices.Equal(some.Clash().List(), []int{20, -20}) || Of([]int{1, -2, 3}).Clash() != 0 {
		t.Errorf("the clash is %v", some.Clash().List())
	}
	if some.Single() || Of(nil).Single() {
		t.Errorf("none, or several, are taken for one")
	}
	if few := Of([]int{1, 20}); !few.Within(some) || some.Within(few) || !some.Within(some) || !Of(nil).Within(few) || Of([]int{-1}).Within(few) {
		t.Errorf("what is within what is told wrong")
	}
}
