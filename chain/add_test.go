package chain

import (
	"math"
	"slices"
	"testing"

	"kinesphere/api"
)

// P8.2
func TestAdd(t *testing.T) {
	for node := range 24 {
		var l []api.Link
		data := [][]byte{[]byte("first"), nil, {}, {0, 255}, make([]byte, 65536), []byte("last")}
		for i, b := range data {
			kept := cloned(l)
			x, e := Add(l, node, b)
			if e != api.OK || !equal(x, linked(node, data[:i+1]...)) {
				t.Fatalf("node %d, %d: got %d links, %d", node, i, len(x), e)
			}
			if !equal(l, kept) {
				t.Errorf("node %d, %d: Add has changed its argument", node, i)
			}
			l = x
		}
	}
}

// P8.2
func TestFirstLink(t *testing.T) {
	for _, l := range [][]api.Link{nil, {}} {
		x, e := Add(l, 0, nil)
		if e != api.OK || len(x) != 1 || x[0].Node != 0 || x[0].No != 0 || x[0].Prev != tagged("none", nil) || len(x[0].Data) != 0 {
			t.Errorf("got %v, %d", x, e)
		}
	}
}

// P8.2
func TestAddOfWrongArguments(t *testing.T) {
	for _, l := range [][]api.Link{nil, linked(0, words("a")...), linked(9, words("a", "b")...), linked(23, words("a")...)} {
		for _, node := range []int{math.MinInt, -1, 0, 1, 8, 9, 10, 22, 23, 24, 25, math.MaxInt} {
			for _, n := range []int{0, 1, 65535, 65536, 65537, 1 << 20} {
				x, e := Add(l, node, make([]byte, n))
				if y, f := modelAdd(l, node, make([]byte, n)); e != f || !equal(x, y) {
					t.Errorf("%d links, node %d, %d bytes: got %d links, %d", len(l), node, n, len(x), e)
				}
			}
		}
	}
}

// P8.2
func TestAddToChangedChains(t *testing.T) {
	l := linked(5, words("ab", "c")...)
	for i, x := range l {
		for _, y := range changes(x) {
			m := slices.Clone(l)
			m[i] = y
			for _, node := range []int{-1, 5, 6, y.Node} {
				got, e := Add(m, node, []byte("z"))
				if want, f := modelAdd(m, node, []byte("z")); e != f || !equal(got, want) {
					t.Errorf("%d, %v, node %d: got %v, %d", i, y, node, got, e)
				}
			}
		}
	}
}

// P8.2
func TestOrderOfErrorsOfAdd(t *testing.T) {
	full, tooLong := long(6, 1024), long(6, 1025)
	broken := slices.Clone(full)
	broken[1000].No++
	much := make([]byte, 65537)
	for i, x := range []struct {
		l    []api.Link
		node int
		data []byte
		e    api.Errno
	}{
		{tooLong, 6, nil, api.ErrLimit},
		{tooLong, 5, nil, api.ErrLimit},
		{tooLong, 24, much, api.ErrLimit},
		{make([]api.Link, 1025), 6, nil, api.ErrLimit},
		{broken, 6, nil, api.ErrChain},
		{broken, -1, much, api.ErrChain},
		{broken[:1001], 24, nil, api.ErrChain},
		{broken[:1000], 24, nil, api.ErrArg},
		{full, 5, nil, api.ErrArg},
		{full, -1, nil, api.ErrArg},
		{full, 24, nil, api.ErrArg},
		{full, 6, much, api.ErrArg},
		{full, 6, nil, api.ErrLimit},
		{full[:1023], 6, nil, api.OK},
	} {
		got, e := Add(x.l, x.node, x.data)
		if e != x.e || e != api.OK && got != nil || e == api.OK && !equal(got, modelOf(x.l, x.node, x.data)) {
			t.Errorf("%d: got %d links, %d", i, len(got), e)
		}
	}
}

func modelOf(l []api.Link, node int, data []byte) []api.Link {
	l, _ = modelAdd(l, node, data)
	return l
}

// P8.2
func TestChainsThatGoOnFromOne(t *testing.T) {
	room := append(make([]api.Link, 0, 8), linked(2, words("a", "b")...)...)
	x, _ := Add(room, 2, []byte("x"))
	y, _ := Add(room, 2, []byte("y"))
	if !equal(x, linked(2, words("a", "b", "x")...)) || !equal(y, linked(2, words("a", "b", "y")...)) {
		t.Errorf("got %v and %v", x, y)
	}
	for _, z := range room[2:8] {
		if z.Node != 0 || z.No != 0 || z.Prev != (api.Digest{}) || z.Data != nil {
			t.Errorf("Add has written %v behind its argument", z)
		}
	}
	xx, _ := Add(x[:2], 2, []byte("z"))
	if !equal(x, linked(2, words("a", "b", "x")...)) || !equal(xx, linked(2, words("a", "b", "z")...)) {
		t.Errorf("got %v and %v", x, xx)
	}
}

// P8.2: a caller that goes on using its buffer does not break the chain.
func TestDataAreCopied(t *testing.T) {
	buffer := []byte("first")
	l, _ := Add(nil, 1, buffer)
	copy(buffer, "other")
	l, e := Add(l, 1, buffer)
	copy(buffer, "third")
	if e != api.OK || !equal(l, linked(1, words("first", "other")...)) {
		t.Errorf("got %v, %d", l, e)
	}
}

// P8.4
func TestBeginningsAreChains(t *testing.T) {
	var l []api.Link
	for i := range 120 {
		x, e := Add(l, 11, make([]byte, i*i%777))
		if e != api.OK {
			t.Fatalf("%d: got %d", i, e)
		}
		l = x
		if e := Check(l); e != api.OK {
			t.Errorf("%d: got %d", i, e)
		}
	}
	for i := range len(l) + 1 {
		if e := Check(l[:i]); e != api.OK {
			t.Errorf("%d: got %d", i, e)
		}
		if i < len(l) && l[i].Prev != Head(l[:i]) {
			t.Errorf("%d: the Prev is not the head of the links before", i)
		}
	}
}

// P8.4
func TestReplacedLinks(t *testing.T) {
	for n := 1; n < 6; n++ {
		l := long(n, n)
		for i, x := range l {
			for _, y := range changes(x) {
				m := slices.Clone(l)
				m[i] = y
				if equal(m, l) {
					t.Fatalf("%v is no change", y)
				}
				if e := Check(m); i < n-1 && e != api.ErrChain {
					t.Errorf("%d of %d, %v: got %d", i, n, y, e)
				}
			}
			// The data of the last link alone can be replaced.
			m := slices.Clone(l)
			m[i].Data = []byte("other")
			if e := Check(m); (e == api.OK) != (i == n-1) {
				t.Errorf("%d of %d: got %d", i, n, e)
			}
		}
	}
}

// P8.4
func TestHeadsOfDifferentChains(t *testing.T) {
	heads := map[api.Digest]int{}
	count := 0
	var extend func(l []api.Link)
	extend = func(l []api.Link) {
		count++
		heads[Head(l)]++
		if len(l) == 4 {
			return
		}
		for _, s := range []string{"", "a", "b", "ab", "\x00"} {
			if x, e := Add(l, l[0].Node, []byte(s)); e == api.OK {
				extend(x)
			}
		}
	}
	for node := range 24 {
		l, _ := Add(nil, node, nil)
		extend(l)
	}
	if count != 24*(1+5+25+125) || len(heads) != count {
		t.Errorf("got %d heads of %d chains", len(heads), count)
	}
}
