package merkle

import (
	"bytes"
	"slices"
	"testing"

	"kinesphere/api"
)

// collided finds the texts in another way than the chapter states them: it takes all texts of both ways, and looks for the
// first pair with one digest, without the rows in which the digest of the ways was left alone.
func collided(sum hash, n, i int, a, b []byte, p, q []api.Digest) (x, y []byte, ok bool) {
	c, xs, ok := climbed(sum, n, i, a, p)
	d, ys, fine := climbed(sum, n, i, b, q)
	if !ok || !fine || c != d || bytes.Equal(a, b) {
		return nil, nil, false
	}
	for k := range xs {
		if sum(xs[k]) == sum(ys[k]) {
			return xs[k], ys[k], true
		}
	}
	panic("the last texts have one digest")
}

// generator is a simple generator of numbers.
type generator uint32

func (g *generator) below(n int) int {
	*g = *g*1664525 + 1013904223
	return int(*g>>8) % n
}

// path returns a path of digests that a weak hash might return.
func (g *generator) path(n, kinds int) (path []api.Digest) {
	for range n {
		path = append(path, weak(kinds)([]byte{byte(g.below(256))}))
	}
	return path
}

// checkCollision compares what collide returns with what is expected, and with what the promises say of it.
func checkCollision(t *testing.T, sum hash, n, i int, a, b []byte, p, q []api.Digest) (ok bool) {
	t.Helper()
	wantX, wantY, want := collided(sum, n, i, a, b, p, q)
	oldA, oldB, oldP, oldQ := bytes.Clone(a), bytes.Clone(b), slices.Clone(p), slices.Clone(q)
	x, y, ok := sum.collide(n, i, a, b, p, q)
	if ok != want || !bytes.Equal(x, wantX) || !bytes.Equal(y, wantY) {
		t.Fatal(n, i, a, b, len(p), len(q), x, y, ok)
	}
	if ok && (bytes.Equal(x, y) || sum(x) != sum(y)) {
		t.Fatal(n, i, "not two texts with one digest", x, y)
	}
	if !bytes.Equal(a, oldA) || !bytes.Equal(b, oldB) || !slices.Equal(p, oldP) || !slices.Equal(q, oldQ) {
		t.Fatal(n, i, "changed")
	}
	return ok
}

// P7.2

// Two different leaves that really are in one place do not collide with the real hash.
func TestNobodyCollides(t *testing.T) {
	for n := 1; n < 20; n++ {
		l := list(n)
		for i := range n {
			path, _ := Prove(l, i)
			other := slices.Clone(l)
			other[i] = []byte("other")
			q, _ := Prove(other, i)
			for _, two := range [][2][]byte{{l[i], other[i]}, {other[i], l[i]}, {l[i], l[i]}, {nil, {}}, {{}, nil}} {
				x, y, ok := Collide(n, i, two[0], two[1], path, q)
				if ok || len(x)+len(y) > 0 {
					t.Error(n, i, x, y)
				}
			}
		}
	}
}

// Equal leaves do not collide, whatever their paths are.
func TestEqualLeavesDoNotCollide(t *testing.T) {
	sum := weak(2)
	var g generator
	for range 3000 {
		n := 1 + g.below(9)
		i := g.below(n)
		k := pathLen(n, i)
		if x, y, ok := sum.collide(n, i, []byte{1}, []byte{1}, g.path(k, 2), g.path(k, 2)); ok || len(x)+len(y) > 0 {
			t.Fatal(n, i, x, y)
		}
	}
	if x, y, ok := sum.collide(1, 0, nil, []byte{}, nil, nil); ok || len(x)+len(y) > 0 {
		t.Error(x, y)
	}
}

// One of the paths that is too short or too long, or a place outside the list, is enough.
func TestErrorsDoNotCollide(t *testing.T) {
	// With a single digest all ways lead to one root. It is the one that comes with an error.
	sum := hash(func([]byte) api.Digest { return api.Digest{} })
	for n := 1; n < 12; n++ {
		for i := range n {
			k := pathLen(n, i)
			for long := range 2*k + 3 {
				p, q := make([]api.Digest, k), make([]api.Digest, long)
				for _, paths := range [][2][]api.Digest{{p, q}, {q, p}, {q, q}} {
					x, y, ok := sum.collide(n, i, []byte("a"), []byte("b"), paths[0], paths[1])
					if ok != (long == k) || !ok && len(x)+len(y) > 0 {
						t.Error(n, i, long, ok)
					}
				}
			}
		}
	}
	for _, w := range [][2]int{{0, 0}, {1, 1}, {2, -1}, {65537, 0}, {65537, 65536}, {-1, 0}} {
		for k := range 20 {
			if x, y, ok := sum.collide(w[0], w[1], []byte("a"), []byte("b"), make([]api.Digest, k), make([]api.Digest, k)); ok || len(x)+len(y) > 0 {
				t.Error(w, k)
			}
		}
	}
}

// With a single digest, the leaves themselves have it: what follows in their ways does not count.
func TestLeavesCollide(t *testing.T) {
	sum := weak(1)
	for n := 1; n < 20; n++ {
		for i := range n {
			p, q := digests(pathLen(n, i)), make([]api.Digest, pathLen(n, i))
			x, y, ok := sum.collide(n, i, []byte("a"), []byte("bc"), p, q)
			if !ok || !bytes.Equal(x, tagged("leaf", []byte("a"))) || !bytes.Equal(y, tagged("leaf", []byte("bc"))) {
				t.Error(n, i, x, y, ok)
			}
		}
	}
}

// P7.3: two leaves at one place of lists with one root.

func TestCollisionsOfAnyPaths(t *testing.T) {
	var g generator
	found, deep := 0, 0
	for _, kinds := range []int{1, 2, 3, 4, 8} {
		sum := weak(kinds)
		for range 20000 {
			n := 1 + g.below(40)
			i := g.below(n)
			k := pathLen(n, i)
			a, b := []byte{byte(g.below(9))}, []byte{byte(g.below(9)), byte(g.below(3))}[:g.below(3)]
			p, q := g.path(k, kinds), g.path(k, kinds)
			if checkCollision(t, sum, n, i, a, b, p, q) {
				found++
				if x, _, _ := sum.collide(n, i, a, b, p, q); bytes.HasPrefix(x, tagged("node")) {
					deep++
				}
			}
		}
	}
	if found < 20000 || deep < 5000 {
		t.Error("too few collisions", found, deep)
	}
}

// The lists are really there, and the last rows of a list of odd length leave digests alone.
func TestCollisionsOfLists(t *testing.T) {
	var g generator
	found, odd := 0, 0
	for _, kinds := range []int{2, 3, 7} {
		sum := weak(kinds)
		for range 4000 {
			n := 1 + g.below(20)
			i := g.below(n)
			l, m := make([][]byte, n), make([][]byte, n)
			for k := range n {
				l[k], m[k] = []byte{byte(g.below(200))}, []byte{byte(g.below(200))}
			}
			rootL, p := proved(sum, l, i)
			rootM, q := proved(sum, m, i)
			ok := checkCollision(t, sum, n, i, l[i], m[i], p, q)
			if ok != (rootL == rootM && !bytes.Equal(l[i], m[i])) {
				t.Fatal(n, i, ok)
			}
			if ok {
				found++
			}
			if ok && i == n-1 && n%2 == 1 {
				odd++
			}
		}
	}
	if found < 1000 || odd < 100 {
		t.Error("too few collisions", found, odd)
	}
}

// The row in which two ways meet is the first one in which they do, also if they part again and meet a second time.
func TestFirstRowCounts(t *testing.T) {
	met := map[int]int{}
	sum := weak(3)
	var g generator
	for range 30000 {
		p, q := g.path(6, 3), g.path(6, 3)
		a, b := []byte{byte(g.below(100))}, []byte{byte(100 + g.below(100))}
		if !checkCollision(t, sum, 64, 37, a, b, p, q) {
			continue
		}
		x, _, _ := sum.collide(64, 37, a, b, p, q)
		_, texts, _ := climbed(sum, 64, 37, a, p)
		row := slices.IndexFunc(texts, func(text []byte) bool { return bytes.Equal(text, x) })
		met[row]++
	}
	for row := range 7 {
		if met[row] < 50 {
			t.Error(row, met[row])
		}
	}
}
