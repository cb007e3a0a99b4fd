package merkle

import (
	"math"
	"slices"
	"testing"

	"kinesphere/api"
)

// weak returns a hash with few digests, which begin with a number below n and end with ones.
func weak(n int) hash {
	return func(text []byte) (d api.Digest) {
		for i, b := range strong(text) {
			d[i] = 1
			if i == 0 {
				d[0] = byte(int(b) % n)
			}
		}
		return d
	}
}

// digests returns n different digests.
func digests(n int) (l []api.Digest) {
	for i := range n {
		l = append(l, strong([]byte{byte(i), byte(i >> 8)}))
	}
	return l
}

// climbed climbs in another way than the chapter states it: from the root down, in two parts, with the path from its end. It
// returns the texts on the way, from the leaf, and false if there are too many or too few digests.
func climbed(sum hash, n, i int, leaf []byte, path []api.Digest) (d api.Digest, texts [][]byte, ok bool) {
	if (n == 1) != (len(path) == 0) {
		return d, nil, false
	}
	if n == 1 {
		x := tagged("leaf", leaf)
		return sum(x), [][]byte{x}, true
	}
	k := split(n)
	last := path[len(path)-1]
	rest := path[:len(path)-1]
	var x []byte
	if i < k {
		d, texts, ok = climbed(sum, k, i, leaf, rest)
		x = tagged("node", d[:], last[:])
	} else {
		d, texts, ok = climbed(sum, n-k, i-k, leaf, rest)
		x = tagged("node", last[:], d[:])
	}
	if !ok {
		return api.Digest{}, nil, false
	}
	return sum(x), append(texts, x), true
}

// lengths are all short lengths of lists, and those around greater powers of two.
func lengths() (l []int) {
	for n := 1; n <= 66; n++ {
		l = append(l, n)
	}
	for k := 7; k <= 16; k++ {
		l = append(l, 1<<k-1, 1<<k)
		if k < 16 {
			l = append(l, 1<<k+1, 1<<k+1<<(k-3), 3<<k/2-1)
		}
	}
	return l
}

// P7.2

// Any digests of the right number lead somewhere, also where no list is known.
func TestClimb(t *testing.T) {
	others := digests(20)
	for _, n := range lengths() {
		for _, i := range places(n) {
			for k := range 20 {
				path := others[:k]
				leaf := []byte{byte(n), byte(i), byte(k)}
				want, _, ok := climbed(strong, n, i, leaf, path)
				f := api.OK
				if !ok {
					f = api.ErrPath
				}
				if d, e := Climb(n, i, leaf, path); e != f || d != want {
					t.Fatal(n, i, k, e, f)
				}
			}
		}
	}
	if !slices.Equal(others, digests(20)) {
		t.Error("changed")
	}
}

func TestSmallClimbs(t *testing.T) {
	x := digests(3)
	a := leafOf("a")
	for i, c := range []struct {
		n, at int
		path  []api.Digest
		want  api.Digest
	}{
		{1, 0, nil, a}, {1, 0, []api.Digest{}, a},
		{2, 0, x[:1], nodeOf(a, x[0])}, {2, 1, x[:1], nodeOf(x[0], a)},
		{3, 2, x[:1], nodeOf(x[0], a)}, {3, 1, x[:2], nodeOf(nodeOf(x[0], a), x[1])}, {3, 0, x[:2], nodeOf(nodeOf(a, x[0]), x[1])},
		{4, 2, x[:2], nodeOf(x[1], nodeOf(a, x[0]))}, {4, 3, x[:2], nodeOf(x[1], nodeOf(x[0], a))},
		{5, 4, x[:1], nodeOf(x[0], a)}, {5, 2, x[:3], nodeOf(nodeOf(x[1], nodeOf(a, x[0])), x[2])},
		{6, 4, x[:2], nodeOf(x[1], nodeOf(a, x[0]))}, {32769, 32768, x[:1], nodeOf(x[0], a)},
	} {
		if d, e := Climb(c.n, c.at, []byte("a"), c.path); e != api.OK || d != c.want {
			t.Error(i, e)
		}
	}
	if d, e := Climb(1, 0, nil, nil); e != api.OK || d != leafOf("") {
		t.Error(e)
	}
}

// That there is no such leaf is said before anything is said about the path.
func TestWrongLeaves(t *testing.T) {
	many := digests(40)
	ends := []int{math.MinInt, math.MinInt + 1, -1 << 32, -65536, -2, -1, 0, 1, 2, 3, 65535, 65536, 65537, 1 << 32, math.MaxInt - 1, math.MaxInt}
	for _, n := range ends {
		for _, i := range ends {
			if 0 <= i && i < n && n <= 65536 {
				continue
			}
			for k := range 41 {
				if d, e := Climb(n, i, []byte("a"), many[:k]); e != api.ErrArg || d != (api.Digest{}) {
					t.Fatal(n, i, k, e)
				}
				if x, y, ok := Collide(n, i, []byte("a"), []byte("b"), many[:k], many[:k]); ok || len(x)+len(y) > 0 {
					t.Fatal(n, i, k, x, y)
				}
			}
		}
	}
}

// P7.3

func TestClimbingLeadsToTheRoot(t *testing.T) {
	for _, n := range lengths() {
		if n > 600 {
			continue
		}
		l := list(n)
		root := Root(l)
		for _, i := range places(n) {
			path, e := Prove(l, i)
			d, f := Climb(n, i, l[i], path)
			if e != api.OK || f != api.OK || d != root {
				t.Fatal(n, i, e, f)
			}
			if d, f := Climb(n, i, append([]byte("x"), l[i]...), path); f != api.OK || d == root {
				t.Error(n, i, "another leaf", f)
			}
			for k := range path {
				wrong := slices.Clone(path)
				wrong[k][k] ^= 1
				if d, f := Climb(n, i, l[i], wrong); f != api.OK || d == root {
					t.Error(n, i, k, "another path", f)
				}
			}
		}
	}
}

func TestClimbingInLongLists(t *testing.T) {
	l := list(65536)
	for _, n := range []int{32769, 65535} {
		root := Root(l[:n])
		for _, i := range []int{0, 32767, 32768, n - 1} {
			path, e := Prove(l[:n], i)
			if d, f := Climb(n, i, l[i], path); e != api.OK || f != api.OK || d != root {
				t.Error(n, i, e, f)
			}
		}
	}
}

// The same holds with a hash that has few digests.
func TestClimbingWithAWeakHash(t *testing.T) {
	for _, m := range []int{1, 2, 5, 200} {
		for n := 1; n < 40; n++ {
			l := list(n)
			for i := range n {
				root, path := proved(weak(m), l, i)
				if d, e := weak(m).climb(n, i, l[i], path); e != api.OK || d != root {
					t.Fatal(m, n, i, e)
				}
			}
		}
	}
}
