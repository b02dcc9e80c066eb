package twine

import (
	"cmp"
	"slices"
)

// pair is compared by its first number, then by its second.
type pair [2]int

func comparePairs(a, b pair) int {
	return cmp.Or(cmp.Compare(a[0], b[0]), cmp.Compare(a[1], b[1]))
}

// ranksOf tells for each pair how many different pairs stand ahead of it.
func ranksOf(pairs []pair) []int {
	sorted := slices.Clone(pairs)
	slices.SortFunc(sorted, comparePairs)
	rankOf := make(map[pair]int, len(sorted))
	for rank, p := range slices.Compact(sorted) {
		rankOf[p] = rank
	}
	ranks := make([]int, len(pairs))
	for i, p := range pairs {
		ranks[i] = rankOf[p]
	}
	return ranks
}
