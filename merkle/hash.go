package merkle

import (
	"bytes"
	"slices"

	"kinesphere/api"
	"kinesphere/digest"
)

// A hash makes digests of texts: digest.Sum. Nobody knows two texts to which that gives one digest, so the tests find
// collisions with a weaker hash.
type hash func(text []byte) api.Digest

// text returns what is hashed of some bytes under a tag.
func text(tag string, parts ...[]byte) []byte {
	d := digest.Sum([]byte(tag))
	return slices.Concat(d[:], slices.Concat(parts...))
}

func leafText(leaf []byte) []byte { return text("leaf", leaf) }

func nodeText(a, b api.Digest) []byte { return text("node", a[:], b[:]) }

// join returns the digest of some that belong together in a row: of two, or of a last one, which stays as it is.
func (h hash) join(row ...api.Digest) api.Digest {
	if len(row) == 1 {
		return row[0]
	}
	return h(nodeText(row[0], row[1]))
}

// first returns the first row of a list.
func (h hash) first(l [][]byte) (row []api.Digest) {
	for _, leaf := range l {
		row = append(row, h(leafText(leaf)))
	}
	return row
}

// next returns the row after one.
func (h hash) next(row []api.Digest) (next []api.Digest) {
	for together := range slices.Chunk(row, 2) {
		next = append(next, h.join(together...))
	}
	return next
}

// climb is Climb with this hash.
func (h hash) climb(n, i int, leaf []byte, path []api.Digest) (d api.Digest, e api.Errno) {
	if !isPlace(n, i) {
		return d, api.ErrArg
	}
	if len(path) != pathLen(n, i) {
		return d, api.ErrPath
	}
	d = h(leafText(leaf))
	for s := range way(n, i) {
		if !s.alone() {
			d, path = h(s.text(d, path[0])), path[1:]
		}
	}
	return d, api.OK
}

// collide is Collide with this hash.
func (h hash) collide(n, i int, a, b []byte, p, q []api.Digest) (x, y []byte, ok bool) {
	c, e := h.climb(n, i, a, p)
	d, f := h.climb(n, i, b, q)
	if e != api.OK || f != api.OK || c != d || bytes.Equal(a, b) {
		return nil, nil, false
	}
	x, y = h.meet(n, i, a, b, p, q)
	return x, y, true
}

// meet returns the texts with one digest in the first row in which the ways of two different leaves to one root have one.
func (h hash) meet(n, i int, a, b []byte, p, q []api.Digest) (x, y []byte) {
	x, y = leafText(a), leafText(b)
	c, d := h(x), h(y)
rows:
	for s := range way(n, i) {
		switch {
		case c == d:
			break rows
		case s.alone():
			continue rows
		}
		x, y = s.text(c, p[0]), s.text(d, q[0])
		c, d, p, q = h(x), h(y), p[1:], q[1:]
	}
	return x, y
}
