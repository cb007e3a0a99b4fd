package merkle

import "kinesphere/api"

// A step leads from a row of some length, from a place in it, to the next row.
type step struct{ row, at int }

// other returns the place of the digest that is hashed together with the one of the step.
func (s step) other() int { return s.at ^ 1 }

// alone reports whether the digest of the step is left alone.
func (s step) alone() bool { return s.other() >= s.row }

// text returns what is hashed: the digest of the step and the other one, in the order in which they stand in the row.
func (s step) text(d, other api.Digest) []byte {
	if s.at > s.other() {
		return nodeText(other, d)
	}
	return nodeText(d, other)
}

// isPlace reports whether a list of n leaves is short enough and has the leaf i.
func isPlace(n, i int) bool { return n <= api.MaxLeaves && i >= 0 && i < n }

// way yields the steps of the way of the leaf i of n leaves, from the first row to the last one.
func way(n, i int) func(yield func(s step) bool) {
	return func(yield func(s step) bool) {
		for n, i := n, i; n > 1; n, i = n-n/2, i/2 {
			if !yield(step{n, i}) {
				return
			}
		}
	}
}

// pathLen returns how many digests the path of the leaf i of n leaves has.
func pathLen(n, i int) (k int) {
	for s := range way(n, i) {
		if !s.alone() {
			k++
		}
	}
	return k
}
