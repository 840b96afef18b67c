package parts

import (
	"slices"
	"sync"

	"phalanx/api"
	"phalanx/literals"
	"phalanx/search"
)

// finding is what a search of one part came to: an assignment, or lemmas of which the last one forbids the part.
type finding struct {
	sat    bool
	truth  literals.Set
	lemmas []literals.Set
}

// Run looks for an assignment as search.Run does, but by workers, each of which takes some of the parts.
func Run(f api.Formula, k, workers int, found func(lemma literals.Set)) (literals.Set, bool) {
	findings := findAll(f, cubeSets(f, k), workers)
	isTrue := func(one finding) bool { return one.sat }
	// The first part counts, not the one that was searched first: so the schedule is not seen.
	if at := slices.IndexFunc(findings, isTrue); at >= 0 {
		return findings[at].truth, true
	}
	join(f, k, findings, found)
	return 0, false
}

// findAll: the finding of each part in turn; behind one with an assignment some may be missing.
func findAll(f api.Formula, cubes []literals.Set, workers int) []finding {
	places := make([][]finding, workers)
	var group sync.WaitGroup
	for worker := range workers {
		own := make(chan literals.Set, len(cubes))
		for at := worker; at < len(cubes); at += workers {
			own <- cubes[at]
		}
		close(own)
		group.Add(1)
		go func() {
			defer group.Done()
			places[worker] = work(f, own)
		}()
	}
	group.Wait()
	findings := make([]finding, len(cubes))
	for worker, place := range places {
		for i, one := range place {
			findings[worker+i*workers] = one
		}
	}
	return findings
}

// work ends at an assignment, since the parts behind it do not count any more.
func work(f api.Formula, cubes <-chan literals.Set) []finding {
	var findings []finding
	for cube := range cubes {
		one := find(f, cube)
		findings = append(findings, one)
		if one.sat {
			break
		}
	}
	return findings
}

func find(f api.Formula, cube literals.Set) finding {
	var one finding
	note := func(lemma literals.Set) { one.lemmas = append(one.lemmas, lemma) }
	one.truth, one.sat = search.Run(f, cube, note)
	return one
}

// join hands the lemmas of all parts on, and then, for ever fewer of the variables, those that follow from two: one with a variable and one with its opposite, down to the one without literals. What a lemma handed on already forbids is left out.
func join(f api.Formula, k int, findings []finding, found func(lemma literals.Set)) {
	var last []literals.Set
	forbid := func(cube literals.Set, lemmas []literals.Set) {
		enough := func(lemma literals.Set) bool { return lemma.Within(cube.Opposites()) }
		if slices.ContainsFunc(last, enough) {
			return
		}
		for _, lemma := range lemmas {
			found(lemma)
		}
		last = append(last, lemmas[len(lemmas)-1])
	}
	for i, cube := range cubeSets(f, k) {
		forbid(cube, findings[i].lemmas)
	}
	for fewer := k - 1; fewer >= 0; fewer-- {
		for _, cube := range cubeSets(f, fewer) {
			forbid(cube, []literals.Set{cube.Opposites()})
		}
	}
}
