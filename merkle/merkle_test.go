package merkle

import (
	"bytes"
	"crypto/sha256"
	"math"
	"slices"
	"strings"
	"testing"

	"kinesphere/api"
)

// tagged is what the document calls a text, with the hash function of Go's library.
func tagged(tag string, parts ...[]byte) []byte {
	h := sha256.Sum256([]byte(tag))
	return append(h[:], bytes.Join(parts, nil)...)
}

func strong(text []byte) api.Digest { return sha256.Sum256(text) }

func leafOf(b string) api.Digest { return strong(tagged("leaf", []byte(b))) }

func nodeOf(a, b api.Digest) api.Digest { return strong(tagged("node", a[:], b[:])) }

// list returns n different leaves, of 0 to 99 bytes.
func list(n int) (l [][]byte) {
	x := uint32(n)
	for i := range n {
		leaf := []byte{byte(i), byte(i >> 8)}
		for len(leaf) < i%100 {
			x = x*1664525 + 1013904223
			leaf = append(leaf, byte(x>>24))
		}
		l = append(l, leaf)
	}
	if n > 0 {
		l[n/2] = nil
	}
	return l
}

func cloned(l [][]byte) [][]byte {
	l = slices.Clone(l)
	for i, leaf := range l {
		l[i] = bytes.Clone(leaf)
	}
	return l
}

func same(l, m [][]byte) bool { return slices.EqualFunc(l, m, bytes.Equal) }

// split returns the greatest power of two less than n.
func split(n int) int {
	k := 1
	for 2*k < n {
		k *= 2
	}
	return k
}

// proved computes the root and a path in another way than the chapter states them: from the root down, in two parts.
func proved(sum hash, l [][]byte, i int) (root api.Digest, path []api.Digest) {
	switch len(l) {
	case 0:
		return strong(tagged("none")), nil
	case 1:
		return sum(tagged("leaf", l[0])), nil
	}
	k := split(len(l))
	if i < k {
		a, path := proved(sum, l[:k], i)
		b, _ := proved(sum, l[k:], 0)
		return sum(tagged("node", a[:], b[:])), append(path, b)
	}
	a, _ := proved(sum, l[:k], 0)
	b, path := proved(sum, l[k:], i-k)
	return sum(tagged("node", a[:], b[:])), append(path, a)
}

// places are all places of short lists, and some of longer ones.
func places(n int) (l []int) {
	if n <= 40 {
		for i := range n {
			l = append(l, i)
		}
		return l
	}
	k := split(n)
	l = []int{0, 1, 2, n / 3, n / 2, k - 2, k - 1, k, n - 2, n - 1}
	slices.Sort(l)
	return slices.Compact(l)
}

// P7.1

func TestSmallLists(t *testing.T) {
	a, b, c, d, e, f, g := leafOf("a"), leafOf("b"), leafOf("c"), leafOf("d"), leafOf("e"), leafOf("f"), leafOf("g")
	ab, cd, ef := nodeOf(a, b), nodeOf(c, d), nodeOf(e, f)
	four := nodeOf(ab, cd)
	l := bytes.Split([]byte("abcdefg"), nil)
	roots := []api.Digest{strong(tagged("none")), a, ab, nodeOf(ab, c), four, nodeOf(four, e), nodeOf(four, ef), nodeOf(four, nodeOf(ef, g))}
	for n, want := range roots {
		if Root(l[:n]) != want {
			t.Error(n)
		}
	}
	for i, x := range []struct {
		n, at int
		want  []api.Digest
	}{
		{1, 0, nil}, {2, 0, []api.Digest{b}}, {2, 1, []api.Digest{a}},
		{3, 0, []api.Digest{b, c}}, {3, 1, []api.Digest{a, c}}, {3, 2, []api.Digest{ab}},
		{5, 3, []api.Digest{c, ab, e}}, {5, 4, []api.Digest{four}}, {6, 4, []api.Digest{f, four}}, {6, 5, []api.Digest{e, four}},
		{7, 2, []api.Digest{d, ab, nodeOf(ef, g)}}, {7, 5, []api.Digest{e, g, four}}, {7, 6, []api.Digest{ef, four}},
	} {
		if path, e := Prove(l[:x.n], x.at); e != api.OK || !slices.Equal(path, x.want) {
			t.Error(i, path, e)
		}
	}
}

func TestRootsAndPaths(t *testing.T) {
	lengths := []int{47, 48, 63, 64, 65, 96, 97, 100, 127, 128, 129, 1000}
	for n := range 41 {
		lengths = append(lengths, n)
	}
	for _, n := range lengths {
		l := list(n)
		old := cloned(l)
		if want, _ := proved(strong, l, 0); Root(l) != want {
			t.Error(n, "Root")
		}
		for _, i := range places(n) {
			_, want := proved(strong, l, i)
			if path, e := Prove(l, i); e != api.OK || !slices.Equal(path, want) {
				t.Error(n, i, "Prove", e)
			}
		}
		if !same(l, old) {
			t.Error(n, "changed")
		}
	}
}

func TestLongLists(t *testing.T) {
	all := list(65536)
	for _, n := range []int{32769, 65536} {
		l := all[:n]
		if want, _ := proved(strong, l, 0); Root(l) != want {
			t.Error(n, "Root")
		}
		for _, i := range []int{0, n / 2, n - 1} {
			_, want := proved(strong, l, i)
			if path, e := Prove(l, i); e != api.OK || !slices.Equal(path, want) || len(path) > 16 {
				t.Error(n, i, "Prove", len(path), e)
			}
		}
	}
}

// Equal leaves do not hide at which place one stands, nor how many there are.
func TestEqualLeaves(t *testing.T) {
	for n := range 36 {
		l := make([][]byte, n)
		if want, _ := proved(strong, l, 0); Root(l) != want || n > 0 && Root(l) == Root(l[1:]) {
			t.Error(n)
		}
		for i := range l {
			_, want := proved(strong, l, i)
			if path, e := Prove(l, i); e != api.OK || !slices.Equal(path, want) {
				t.Error(n, i, e)
			}
		}
	}
}

// R3: nil and empty lists and leaves are equivalent.
func TestNothing(t *testing.T) {
	if Root(nil) != Root([][]byte{}) || Root(nil) != strong(tagged("none")) {
		t.Error("no leaves")
	}
	if Root([][]byte{nil}) != Root([][]byte{{}}) || Root([][]byte{nil}) != leafOf("") {
		t.Error("an empty leaf")
	}
	if Root(nil) == Root([][]byte{nil}) || Root([][]byte{nil}) == Root([][]byte{nil, nil}) {
		t.Error("lists of different lengths")
	}
}

// A leaf with the bytes of two digests is not what has them below it.
func TestLeavesAreNoNodes(t *testing.T) {
	a, b := leafOf("a"), leafOf("b")
	inner := slices.Concat(a[:], b[:])
	for i, leaf := range [][]byte{inner, tagged("node", inner), tagged("leaf", []byte("a")), a[:]} {
		if d := Root([][]byte{leaf}); d == nodeOf(a, b) || d == a {
			t.Error(i)
		}
	}
}

func TestWrongPlaces(t *testing.T) {
	for _, n := range []int{0, 1, 2, 5, 8, 65536} {
		l := make([][]byte, n)
		for _, i := range []int{-1, n, n + 1, 1 << 32, math.MinInt, math.MaxInt} {
			if path, e := Prove(l, i); e != api.ErrArg || len(path) > 0 {
				t.Error(n, i, len(path), e)
			}
		}
	}
	for _, n := range []int{65537, 65538, 100000} {
		l := make([][]byte, n)
		for _, i := range []int{-1, 0, 1, 65535, 65536, n - 1, n} {
			if path, e := Prove(l, i); e != api.ErrArg || len(path) > 0 {
				t.Error(n, i, len(path), e)
			}
		}
		Root(l)
	}
}

// R2: what lies behind leaves and lists, within their capacity, is neither changed nor counted.
func TestCapacities(t *testing.T) {
	bytesOf := []byte(strings.Repeat("abcdefgh", 40))
	l := make([][]byte, 0, 30)
	for i := range 13 {
		l = append(l, bytesOf[i*7:i*7+i])
	}
	whole := l[:30]
	whole[13] = []byte("behind")
	old := cloned(whole)
	root, path := proved(strong, cloned(l), 12)
	if p, e := Prove(l, 12); Root(l) != root || e != api.OK || !slices.Equal(p, path) {
		t.Error(e)
	}
	if !same(whole, old) || string(bytesOf) != strings.Repeat("abcdefgh", 40) {
		t.Error("changed")
	}
}

// P7.4

func TestRootOfTwoParts(t *testing.T) {
	for n := 2; n < 300; n++ {
		l := list(n)
		k := split(n)
		if k >= n || 2*k < n || Root(l) != nodeOf(Root(l[:k]), Root(l[k:])) {
			t.Error(n)
		}
	}
}

func TestLengthsOfPaths(t *testing.T) {
	longest := 0
	for n := 1; n <= 65536; n += 1 + n/5 {
		l := make([][]byte, n)
		path, e := Prove(l, n/2)
		if e != api.OK || len(path) > 16 {
			t.Fatal(n, len(path), e)
		}
		longest = max(longest, len(path))
	}
	path, e := Prove(make([][]byte, 65536), 12345)
	if e != api.OK || len(path) != 16 || longest > 16 {
		t.Error(len(path), e, longest)
	}
}
