// Package literals: the literals of formulas without a fault, and sets of them.
package literals

import "math/bits"

// Place tells where a literal stands in the row 1, -1, 2, -2, and so on, from 0 on.
func Place(literal int) int {
	if literal < 0 {
		return 2*(-literal-1) + 1
	}
	return 2 * (literal - 1)
}

func at(place int) int {
	variable := place/2 + 1
	if place%2 == 1 {
		return -variable
	}
	return variable
}

// Set has a bit for each literal, at its place: api.MaxVars is low enough for that.
type Set uint64

// plain has the bits of all literals that are a variable, not its opposite.
const plain Set = 0x5555555555555555

// Of makes a set out of a list, in which a literal may stand several times.
func Of(list []int) Set {
	var s Set
	for _, literal := range list {
		s |= 1 << Place(literal)
	}
	return s
}

// List: the literals, by their variables, rising; v ahead of -v.
func (s Set) List() []int {
	list := make([]int, 0, bits.OnesCount64(uint64(s)))
	for rest := s; rest != 0; rest &= rest - 1 {
		list = append(list, at(bits.TrailingZeros64(uint64(rest))))
	}
	return list
}

// Opposites: the opposite of each literal.
func (s Set) Opposites() Set { return s&plain<<1 | s>>1&plain }

// Clash: the literals that stand there beside their opposites.
func (s Set) Clash() Set { return s & s.Opposites() }

// Single tells whether there is just one literal.
func (s Set) Single() bool { return s != 0 && s&(s-1) == 0 }

// Within tells whether all the literals are among those of another set.
func (s Set) Within(other Set) bool { return s&^other == 0 }
