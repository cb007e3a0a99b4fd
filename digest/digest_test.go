package digest

import (
	"bytes"
	"crypto/sha256"
	"encoding/binary"
	"encoding/hex"
	"math"
	"slices"
	"strings"
	"testing"

	"kinesphere/api"
)

// tagged is Tagged with the hash function of Go's library.
func tagged(tag string, parts ...[]byte) api.Digest {
	h := sha256.Sum256([]byte(tag))
	return sha256.Sum256(slices.Concat(h[:], slices.Concat(parts...)))
}

// generated returns n bytes that follow a simple rule.
func generated(n int) []byte {
	b := make([]byte, n)
	x := uint32(n)
	for i := range b {
		x = x*1664525 + 1013904223
		b[i] = byte(x >> 24)
	}
	return b
}

// digests returns n different digests.
func digests(n int) (l []api.Digest) {
	for i := range n {
		l = append(l, sha256.Sum256(generated(i)))
	}
	return l
}

// P2.1

func TestSumOfKnownBytes(t *testing.T) {
	for i, x := range []struct{ b, want string }{
		{"", "e3b0c44298fc1c149afbf4c8996fb92427ae41e4649b934ca495991b7852b855"},
		{"abc", "ba7816bf8f01cfea414140de5dae2223b00361a396177a9cb410ff61f20015ad"},
		{"abcdbcdecdefdefgefghfghighijhijkijkljklmklmnlmnomnopnopq", "248d6a61d20638b8e5c026930c3e6039a33ce45964ff2167f6ecedd419db06c1"},
		{"abcdefghbcdefghicdefghijdefghijkefghijklfghijklmghijklmnhijklmnoijklmnopjklmnopqklmnopqrlmnopqrsmnopqrstnopqrstu", "cf5b16a778af8380036ce59e7b0492370b249b11e8f07a51afac45037afee9d1"},
		{strings.Repeat("a", 1000000), "cdc76e5c9914fb9281a1c7e284d73e67f1809a48a497200e046d39ccc7112cd0"},
	} {
		if d := Sum([]byte(x.b)); hex.EncodeToString(d[:]) != x.want {
			t.Error(i, hex.EncodeToString(d[:]))
		}
	}
}

// Every length up to five blocks: among them those at which the padding just fits, and does not.
func TestSumOfAllLengths(t *testing.T) {
	for n := range 5*64 + 1 {
		for i, b := range [][]byte{generated(n), make([]byte, n), bytes.Repeat([]byte{255}, n), bytes.Repeat([]byte{128}, n)} {
			if Sum(b) != sha256.Sum256(b) {
				t.Error(n, i)
			}
		}
	}
	for _, n := range []int{8191, 8192, 8193, 65536, 1<<20 - 9, 1<<20 - 8, 1 << 20} {
		if b := generated(n); Sum(b) != sha256.Sum256(b) {
			t.Error(n)
		}
	}
}

// The number of bits stands in eight bytes at the end: lengths whose bytes would take too long to hash have it as well.
func TestPaddingOfGreatLengths(t *testing.T) {
	for _, n := range []int{0, 1, 55, 56, 63, 64, 1<<13 - 1, 1 << 13, 1<<29 - 1, 1 << 29, 1<<29 + 3, 1<<31 - 1, 1<<37 + 60, 1<<40 + 56} {
		rest := generated(n % 64)
		p := padded(rest, n)
		want := append(slices.Clone(rest), 0x80)
		for len(want)%64 != 56 {
			want = append(want, 0)
		}
		if want = binary.BigEndian.AppendUint64(want, 8*uint64(n)); !bytes.Equal(p, want) {
			t.Error(n, p)
		}
	}
}

func TestSumOfNothing(t *testing.T) {
	if Sum(nil) != Sum([]byte{}) || Sum(nil) != sha256.Sum256(nil) {
		t.Error("nil and empty")
	}
}

func TestTagged(t *testing.T) {
	for _, tag := range []string{"", "a", "leaf", "node", "é\x00\xff", strings.Repeat("x", 55), strings.Repeat("x", 64), strings.Repeat("x", 1000)} {
		for _, n := range []int{0, 1, 22, 23, 24, 31, 32, 33, 64, 87, 88, 500} {
			if b := generated(n); Tagged(tag, b) != tagged(tag, b) {
				t.Error(tag, n)
			}
		}
	}
	none := Sum(nil)
	if Tagged("", nil) != Sum(none[:]) || Tagged("", []byte{}) != Sum(none[:]) {
		t.Error("the empty tag and no bytes")
	}
	if Tagged("ab", []byte("c")) == Tagged("a", []byte("bc")) {
		t.Error("the tag is not kept apart from the bytes")
	}
}

// R2: neither the bytes nor what lies behind them, within their capacity, is changed or counts.
func TestSumLeavesBytes(t *testing.T) {
	all := generated(300)
	old := slices.Clone(all)
	for n := range 200 {
		if b := all[:n]; Sum(b) != sha256.Sum256(old[:n]) || Tagged("t", b) != tagged("t", old[:n]) || !bytes.Equal(all, old) {
			t.Fatal(n)
		}
	}
}

// P2.2: levels computes the digest of a list and a path in another way than the chapter states them: level by level, from the
// leaves; the last node of a level of odd length is taken over to the next one.

func levels(l []api.Digest, at int) (root api.Digest, path []api.Digest) {
	var row []api.Digest
	for _, d := range l {
		row = append(row, tagged("leaf", d[:]))
	}
	if len(row) == 0 {
		return tagged("empty"), nil
	}
	for ; len(row) > 1; at /= 2 {
		if other := at ^ 1; other < len(row) {
			path = append(path, row[other])
		}
		var next []api.Digest
		for two := range slices.Chunk(row, 2) {
			if len(two) == 2 {
				two = []api.Digest{tagged("node", two[0][:], two[1][:])}
			}
			next = append(next, two[0])
		}
		row = next
	}
	return row[0], path
}

// climbed climbs in the same way. It returns false if there are too many or too few digests.
func climbed(d api.Digest, at, n int, path []api.Digest) (api.Digest, bool) {
	d = tagged("leaf", d[:])
	for ; n > 1; at, n = at/2, n/2+n%2 {
		if at^1 >= n {
			continue
		}
		if len(path) == 0 {
			return api.Digest{}, false
		}
		if at%2 == 0 {
			d = tagged("node", d[:], path[0][:])
		} else {
			d = tagged("node", path[0][:], d[:])
		}
		path = path[1:]
	}
	return d, len(path) == 0
}

func TestTreesAndPaths(t *testing.T) {
	lengths := []int{47, 48, 63, 64, 65, 100}
	for n := range 34 {
		lengths = append(lengths, n)
	}
	for _, n := range lengths {
		l := digests(n)
		for at := range max(n, 1) {
			root, want := levels(l, at)
			if Tree(l) != root {
				t.Fatal(n, "Tree")
			}
			if n == 0 {
				continue
			}
			if path, e := Path(l, at); e != api.OK || !slices.Equal(path, want) {
				t.Fatal(n, at, "Path", e)
			}
		}
	}
}

func TestSmallTrees(t *testing.T) {
	l := digests(7)
	leafOf := func(i int) api.Digest { return tagged("leaf", l[i][:]) }
	join := func(a, b api.Digest) api.Digest { return tagged("node", a[:], b[:]) }
	two := join(leafOf(0), leafOf(1))
	four := join(two, join(leafOf(2), leafOf(3)))
	six := join(four, join(leafOf(4), leafOf(5)))
	for n, want := range []api.Digest{tagged("empty"), leafOf(0), two, join(two, leafOf(2)), four, join(four, leafOf(4)), six} {
		if Tree(l[:n]) != want {
			t.Error(n)
		}
	}
	if path, e := Path(l[:6], 5); e != api.OK || !slices.Equal(path, []api.Digest{leafOf(4), four}) {
		t.Error("Path", e)
	}
	if path, e := Path(l[:6], 1); e != api.OK || !slices.Equal(path, []api.Digest{leafOf(0), join(leafOf(2), leafOf(3)), join(leafOf(4), leafOf(5))}) {
		t.Error("Path", e)
	}
	if path, e := Path(l[:1], 0); e != api.OK || len(path) > 0 {
		t.Error("Path of the only element", e)
	}
	if Tree([]api.Digest{}) != Tree(nil) {
		t.Error("nil and empty")
	}
}

// Equal elements do not hide at which place one stands.
func TestTreeOfEqualElements(t *testing.T) {
	for n := range 40 {
		l := make([]api.Digest, n)
		root, _ := levels(l, 0)
		if Tree(l) != root {
			t.Error(n)
		}
		for at := range l {
			_, want := levels(l, at)
			if path, e := Path(l, at); e != api.OK || !slices.Equal(path, want) {
				t.Error(n, at, e)
			}
		}
	}
}

func TestWrongIndices(t *testing.T) {
	for _, n := range []int{0, 1, 2, 5, 8} {
		l := digests(n)
		for _, at := range []int{-1, n, n + 1, math.MinInt, math.MaxInt} {
			if path, e := Path(l, at); e != api.ErrArg || len(path) > 0 {
				t.Error(n, at, len(path), e)
			}
		}
	}
}

// Any digests of the right number lead somewhere, also where no list is known.
func TestClimb(t *testing.T) {
	others := digests(60)
	d := others[59]
	var sizes []int
	for n := range 70 {
		sizes = append(sizes, n+1)
	}
	for k := 7; k < 40; k++ {
		sizes = append(sizes, 1<<k-1, 1<<k, 1<<k+1, 1<<k+1<<(k-3), 5<<k/4)
	}
	sizes = append(sizes, 1<<40-1, 1<<40)
	for _, n := range sizes {
		for _, at := range []int{0, 1, n / 3, n / 2, n/2 - 1, n - 2, n - 1} {
			if at < 0 || at >= n {
				continue
			}
			for long := range 45 {
				want, ok := climbed(d, at, n, others[:long])
				root, e := Climb(d, at, n, others[:long])
				if ok && (e != api.OK || root != want) || !ok && (e != api.ErrArg || root != api.Digest{}) {
					t.Fatal(n, at, long, e)
				}
			}
		}
	}
}

func TestClimbWrongArguments(t *testing.T) {
	others := digests(64)
	for i, x := range []struct{ at, n, long int }{
		{0, 0, 0}, {0, -1, 0}, {-1, 0, 0}, {-1, -1, 0}, {0, math.MinInt, 0}, {math.MinInt, math.MinInt, 0},
		{-1, 1, 0}, {1, 1, 0}, {-1, 2, 1}, {2, 2, 1}, {5, 5, 1}, {8, 8, 3}, {math.MaxInt, 8, 3}, {math.MinInt, 8, 3},
		{0, 1<<40 + 1, 41}, {0, 1<<40 + 1, 40}, {1 << 40, 1<<40 + 1, 1}, {1 << 40, 1 << 40, 40}, {0, 1 << 41, 41}, {0, math.MaxInt, 63}, {math.MaxInt - 1, math.MaxInt, 62}, {math.MaxInt, math.MaxInt, 63},
		{0, 1, 1}, {0, 2, 0}, {0, 2, 2}, {1, 2, 0}, {0, 5, 2}, {0, 5, 4}, {4, 5, 0}, {4, 5, 2}, {4, 5, 3}, {0, 1 << 40, 39}, {0, 1 << 40, 41},
	} {
		if root, e := Climb(others[0], x.at, x.n, others[:x.long]); e != api.ErrArg || root != (api.Digest{}) {
			t.Error(i, e)
		}
	}
}

// P2.3

func TestChain(t *testing.T) {
	l := append(digests(5), api.Digest{})
	for _, a := range l {
		for _, b := range l {
			if Chain(a, b) != tagged("chain", a[:], b[:]) {
				t.Error(a, b)
			}
		}
	}
	if Chain(api.Digest{}, api.Digest{}) != tagged("chain", make([]byte, 64)) {
		t.Error("zero digests")
	}
	if Chain(l[0], l[1]) == Chain(l[1], l[0]) {
		t.Error("the order does not count")
	}
}

// P2.4

func TestClimbOfPathIsTree(t *testing.T) {
	for _, n := range []int{1, 2, 3, 4, 5, 6, 7, 8, 9, 15, 16, 17, 31, 33, 64, 100, 127, 129} {
		l := digests(n)
		for i, d := range l {
			path, e := Path(l, i)
			root, f := Climb(d, i, n, path)
			if e != api.OK || f != api.OK || root != Tree(l) || len(path) > 40 {
				t.Error(n, i, e, f, len(path))
			}
			// A path proves the element and the place: another one leads elsewhere.
			d[31] ^= 1
			if root, e := Climb(d, i, n, path); e != api.OK || root == Tree(l) {
				t.Error(n, i, e)
			}
		}
	}
}

func TestClimbOfGreatList(t *testing.T) {
	l := digests(1000)
	l = slices.Repeat(l, 10)
	root := Tree(l)
	for i := 0; i < len(l); i += 1999 {
		path, e := Path(l, i)
		got, f := Climb(l[i], i, len(l), path)
		if e != api.OK || f != api.OK || got != root || len(path) > 40 {
			t.Error(i, e, f, len(path))
		}
	}
}

// The longest path of all has 40 elements.
func TestLongestPath(t *testing.T) {
	path := make([]api.Digest, 40)
	for _, at := range []int{0, 1<<40 - 1, 12345678901} {
		if _, e := Climb(api.Digest{}, at, 1<<40, path); e != api.OK {
			t.Error(at, e)
		}
	}
}

func TestNodeOfParts(t *testing.T) {
	l := digests(70)
	for n := 2; n <= len(l); n++ {
		k := 1
		for 2*k < n {
			k *= 2
		}
		a, b := Tree(l[:k]), Tree(l[k:n])
		if Tree(l[:n]) != Tagged("node", slices.Concat(a[:], b[:])) {
			t.Error(n)
		}
	}
}

func TestElementAfterPowerOfTwo(t *testing.T) {
	l := digests(65)
	for n := 1; n < len(l); n *= 2 {
		old, added := Tree(l[:n]), Tagged("leaf", l[n][:])
		if Tree(l[:n+1]) != Tagged("node", slices.Concat(old[:], added[:])) {
			t.Error(n)
		}
	}
}

// R2: lists stay as they are, and a path that was returned does not change afterwards.
func TestTreesLeaveLists(t *testing.T) {
	l := digests(20)
	old := slices.Clone(l)
	short := l[:11]
	path, _ := Path(short, 4)
	kept := slices.Clone(path)
	Tree(short)
	Path(short, 9)
	Climb(l[4], 4, 11, path)
	if !slices.Equal(l, old) || !slices.Equal(path, kept) {
		t.Error("arguments")
	}
	clear(l)
	if !slices.Equal(path, kept) {
		t.Error("results")
	}
}
