package network

import (
	"slices"

	"kinesphere/api"
)

// areParties reports whether a and b are the numbers of two parties.
func areParties(a, b int) bool { return isParty(a) && isParty(b) && a != b }

func isParty(k int) bool { return k >= 0 && k < api.MaxNodes }

// pair returns two parties as a link names them, whichever of them sends.
func pair(a, b int) [2]int { return [2]int{min(a, b), max(a, b)} }

// compare orders links by their first party, then by their second one.
func compare(a, b [2]int) int { return slices.Compare(a[:], b[:]) }

// arePairs reports whether links are valid and strictly increasing.
func arePairs(links [][2]int) bool {
	for i, l := range links {
		if !areParties(l[0], l[1]) || l != pair(l[0], l[1]) || i > 0 && compare(links[i-1], l) >= 0 {
			return false
		}
	}
	return true
}

// others yields all links but one.
func others(links [][2]int, but [2]int) func(yield func(link [2]int) bool) {
	return func(yield func(link [2]int) bool) {
		for _, l := range links {
			if l != but && !yield(l) {
				return
			}
		}
	}
}
