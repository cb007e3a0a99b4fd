package digest

import (
	"math/bits"

	"kinesphere/api"
)

// maxList is the greatest length of a list for which Climb goes up.
const maxList = 1 << 40

// Tree returns the digest of a list.
func Tree(l []api.Digest) (d api.Digest) {
	switch n := len(l); n {
	case 0:
		return Tagged("empty", nil)
	case 1:
		return leaf(l[0])
	default:
		k := first(n)
		return node(Tree(l[:k]), Tree(l[k:]))
	}
}

// Path returns what proves that an element is in a list.
func Path(l []api.Digest, at int) (path []api.Digest, e api.Errno) {
	if at < 0 || at >= len(l) {
		return nil, api.ErrArg
	}
	return pathTo(l, at), api.OK
}

// Climb returns the digest of a list to which a path leads from an element.
func Climb(d api.Digest, at, n int, path []api.Digest) (root api.Digest, e api.Errno) {
	if n < 1 || n > maxList || at < 0 || at >= n {
		return root, api.ErrArg
	}
	down := descent(at, n)
	if len(path) != len(down) {
		return root, api.ErrArg
	}
	root = leaf(d)
	for i, other := range path {
		// The path begins at the element, the descent at the root.
		if down[len(down)-1-i] {
			root = node(other, root)
		} else {
			root = node(root, other)
		}
	}
	return root, api.OK
}

func leaf(d api.Digest) api.Digest { return Tagged("leaf", d[:]) }

func node(a, b api.Digest) api.Digest { return pair("node", a, b) }

// first returns the length of the first part of a list of n elements, n > 1: the greatest power of 2 below n.
func first(n int) int { return 1 << (bits.Len(uint(n-1)) - 1) }

// pathTo returns the path of the element with the index at, which is in l.
func pathTo(l []api.Digest, at int) (path []api.Digest) {
	if len(l) == 1 {
		return nil
	}
	k := first(len(l))
	if at < k {
		return append(pathTo(l[:k], at), Tree(l[k:]))
	}
	return append(pathTo(l[k:], at-k), Tree(l[:k]))
}

// descent says, for each step from the root of n elements down to the one with the index at, whether it leads into the second part.
func descent(at, n int) (second []bool) {
	for n > 1 {
		k := first(n)
		second = append(second, at >= k)
		if at < k {
			n = k
		} else {
			at, n = at-k, n-k
		}
	}
	return second
}
