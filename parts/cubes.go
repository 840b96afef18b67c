// Package parts: the assignments, parted by the heaviest variables, and workers that share the parts. Its functions take formulas without a fault, and as many variables to part by as the formula has, or fewer.
package parts

import (
	"phalanx/api"
	"phalanx/literals"
	"phalanx/weights"
)

// Cubes: for each part its literals of the k heaviest variables. Numbers to the base 2 tell which: the heaviest variable is the highest figure, 0 is v, 1 is -v.
func Cubes(f api.Formula, k int) [][]int {
	variables := weights.Order(f)[:k]
	cubes := make([][]int, 0, 1<<k)
	for number := range 1 << k {
		cubes = append(cubes, signed(variables, number))
	}
	return cubes
}

func signed(variables []int, number int) []int {
	cube := make([]int, len(variables))
	for i, v := range variables {
		if number>>(len(variables)-1-i)&1 == 1 {
			v = -v
		}
		cube[i] = v
	}
	return cube
}

func cubeSets(f api.Formula, k int) []literals.Set {
	var sets []literals.Set
	for _, cube := range Cubes(f, k) {
		sets = append(sets, literals.Of(cube))
	}
	return sets
}
