package taste

import (
	"iter"
	"slices"
)

// steps yields the pairs from each name of a round to the next one, and from the last one to the first one.
func steps(round []int) iter.Seq[pair] {
	return func(yield func(pair) bool) {
		for i, name := range round {
			if !yield(pair{name, round[(i+1)%len(round)]}) {
				return
			}
		}
	}
}

// joins reports whether there is a bound at each step of a round.
func (n net) joins(round []int) bool {
	for step := range steps(round) {
		if _, ok := n[step]; !ok {
			return false
		}
	}
	return true
}

// proof returns by how much the sum of the bounds of a round is below 0.
func (n net) proof(round []int) int64 {
	var sum int64
	for step := range steps(round) {
		sum += n[step]
	}
	return -sum
}

// rounds returns rounds that prove that there is no truth, at least one unless there is a truth.
//
// It looks for ways whose sums are as low as can be (as Bellman and Ford do), from all names at once.
// A way that would be lowered by coming back to one of its own names closes a round below 0.
// A way that is lowered in the n-th pass has more than n names, so that as many passes as there are names are enough.
func (t tongue) rounds() [][]int {
	names := t.names()
	sums := make([]int64, names)
	ways := make([][]int, names)
	for name := range ways {
		ways[name] = []int{name}
	}
	marks := make([]bool, names)
	var found [][]int
search:
	for range names {
		clear(marks)
		for p, by := range t.bounds {
			way, sum := ways[p.from], sums[p.from]+by
			if sum >= sums[p.to] {
				continue
			}
			if i := slices.Index(way, p.to); i >= 0 {
				found = append(found, taken(way[i:]))
				continue
			}
			// Ways share their beginnings, so each must grow in new memory.
			ways[p.to] = append(way[:len(way):len(way)], p.to)
			sums[p.to], marks[p.to] = sum, true
		}
		for _, lowered := range marks {
			if lowered {
				continue search
			}
		}
		break
	}
	return found
}

// taken returns a copy of a list.
func taken(list []int) []int {
	out := make([]int, len(list))
	copy(out, list)
	return out
}

// best returns the first one of those that are worth the most.
func best[T any](all []T, worth func(T) int64) T {
	var top T
	var most int64
	for i, one := range all {
		if w := worth(one); i == 0 || w > most {
			top, most = one, w
		}
	}
	return top
}
