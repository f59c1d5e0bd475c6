package tests

import (
	"slices"
	"testing"
)

// checkNewMemory spoils the results of two runs one by one, with all their room: the others and the arguments stay, and
// so do the results of a third run.
func checkNewMemory(t *testing.T, run func() [][]int, arguments ...[]int) {
	t.Helper()
	results := append(run(), run()...)
	lists := slices.Concat(results, arguments)
	kept := [][]int{}
	for _, list := range lists {
		kept = append(kept, slices.Clone(list))
	}
	for i, r := range results {
		r = r[:cap(r)]
		for k := range r {
			r[k] = 99
		}
		for k := i + 1; k < len(lists); k++ {
			if !slices.Equal(lists[k], kept[k]) {
				t.Fatalf("the list %d changed from %v to %v with the result %d", k, kept[k], lists[k], i)
			}
		}
	}
	for i, r := range run() {
		if !slices.Equal(r, kept[i]) {
			t.Fatalf("the result %d changed from %v to %v with an earlier one", i, kept[i], r)
		}
	}
}
