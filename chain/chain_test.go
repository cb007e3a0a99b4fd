package chain

import (
	"encoding/hex"
	"math"
	"slices"
	"testing"

	"kinesphere/api"
)

// P8.1
func TestHeadIsOfTheLastLink(t *testing.T) {
	if Head(nil) != tagged("none", nil) || Head([]api.Link{}) != tagged("none", nil) {
		t.Errorf("no links: got %x", Head(nil))
	}
	numbers := []int{math.MinInt, -65, -64, -1, 0, 1, 23, 24, 63, 64, 1023, 8191, 8192, math.MaxInt}
	for _, node := range numbers {
		for _, no := range numbers {
			l := []api.Link{{Node: 1}, {Node: node, No: no, Prev: api.Digest{9}, Data: []byte("ab")}}
			if Head(l) != modelHead(l) || Head(l[1:]) != modelHead(l) {
				t.Errorf("%d, %d: got %x", node, no, Head(l))
			}
		}
	}
	for _, n := range []int{0, 1, 2, 54, 55, 56, 63, 64, 127, 128, 129, 16383, 16384, 65535, 65536, 65537, 1 << 20} {
		l := []api.Link{{No: n, Prev: tagged("x", nil), Data: make([]byte, n)}}
		if Head(l) != modelHead(l) {
			t.Errorf("%d bytes: got %x", n, Head(l))
		}
	}
}

// P8.1
func TestHeadIsOfAllFields(t *testing.T) {
	l := linked(3, words("a", "bcd")...)
	heads, texts := map[api.Digest]bool{Head(l): true}, map[string]bool{string(encoded(l[1])): true}
	for _, x := range changes(l[1]) {
		m := []api.Link{l[0], x}
		if Head(m) != modelHead(m) {
			t.Errorf("%v: got %x", x, Head(m))
		}
		heads[Head(m)], texts[string(encoded(x))] = true, true
	}
	if len(heads) != len(texts) || len(texts) < 60 {
		t.Errorf("got %d different heads of %d texts", len(heads), len(texts))
	}
	for _, x := range changes(l[0]) {
		if Head([]api.Link{x, l[1]}) != Head(l) {
			t.Errorf("%v: the head is not of the last link alone", x)
		}
	}
}

// P8.1
func TestHeadsThatWereComputedElsewhere(t *testing.T) {
	for i, x := range []string{
		"fc0dc92a9ee3a34bdcd9829491bb7b0c1c0195252746bd42cf69b9c2cf45fdfa",
		"8a46846e66643b508c854024a2aadcf172528cea5b40df7c5fa65f025026487e",
		"f1afe812b648013435ad0aa43ac39e4ec4d6c4c05ac0a8d896bda07bfb56b601",
	} {
		l := linked(15, words("a", "")...)[:i]
		if h := Head(l); hex.EncodeToString(h[:]) != x {
			t.Errorf("%d: got %x", i, h)
		}
	}
}

// P8.1
func TestCheckOfChains(t *testing.T) {
	if Check(nil) != api.OK || Check([]api.Link{}) != api.OK {
		t.Errorf("no links: got %d", Check(nil))
	}
	for node := range 24 {
		if e := Check(linked(node, words("", "x", "yy")...)); e != api.OK {
			t.Errorf("node %d: got %d", node, e)
		}
	}
	for _, node := range []int{math.MinInt, -24, -1, 24, 25, math.MaxInt} {
		for n := 1; n < 4; n++ {
			if e := Check(linked(node, words("", "x", "yy")[:n]...)); e != api.ErrChain {
				t.Errorf("node %d: got %d", node, e)
			}
		}
	}
	for n := range 40 {
		if e := Check(long(n%24, n)); e != api.OK {
			t.Errorf("%d links: got %d", n, e)
		}
	}
}

// P8.1
func TestCheckOfLengths(t *testing.T) {
	l := long(23, 1026)
	for _, n := range []int{1022, 1023, 1024} {
		if e := Check(l[:n]); e != api.OK {
			t.Errorf("%d links: got %d", n, e)
		}
		if e := Check(make([]api.Link, n)); e != api.ErrChain {
			t.Errorf("%d links: got %d", n, e)
		}
	}
	for _, n := range []int{1025, 1026} {
		if e := Check(l[:n]); e != api.ErrLimit {
			t.Errorf("%d links: got %d", n, e)
		}
		if e := Check(make([]api.Link, n)); e != api.ErrLimit {
			t.Errorf("%d links: got %d", n, e)
		}
	}
}

// P8.1
func TestCheckOfData(t *testing.T) {
	for i := range 3 {
		for _, n := range []int{65535, 65536, 65537, 70000} {
			data := words("a", "b", "c")
			data[i] = make([]byte, n)
			l := linked(7, data...)
			if e := Check(l); e != modelCheck(l) || (e == api.OK) != (n <= 65536) {
				t.Errorf("%d bytes in %d: got %d", n, i, e)
			}
		}
	}
}

// P8.1
func TestCheckOfChangedLinks(t *testing.T) {
	l := linked(5, words("ab", "", "c", "xyz")...)
	for i, x := range l {
		for _, y := range changes(x) {
			m := slices.Clone(l)
			m[i] = y
			kept := cloned(m)
			if e := Check(m); e != modelCheck(m) {
				t.Errorf("%d, %v: got %d", i, y, e)
			}
			if !equal(m, kept) {
				t.Errorf("%d, %v: Check has changed it", i, y)
			}
		}
	}
}

// small yields all lists of at most n links whose fields are in small sets that include the right values.
func small(n int, yield func(l []api.Link)) {
	var extend func(l []api.Link)
	extend = func(l []api.Link) {
		yield(l)
		if len(l) == n {
			return
		}
		for _, node := range []int{-1, 0, 23, 24} {
			for _, no := range []int{len(l) - 1, len(l), len(l) + 1} {
				for _, prev := range []api.Digest{modelHead(l), modelHead(nil), {}} {
					for _, data := range []string{"", "a"} {
						extend(append(slices.Clone(l), api.Link{Node: node, No: no, Prev: prev, Data: []byte(data)}))
					}
				}
			}
		}
	}
	extend(nil)
}

// P8.1, P8.2
func TestSmallLists(t *testing.T) {
	small(2, func(l []api.Link) {
		if Check(l) != modelCheck(l) || Head(l) != modelHead(l) {
			t.Errorf("%v: got %d, %x", l, Check(l), Head(l))
		}
		for _, node := range []int{-1, 0, 1, 23, 24} {
			x, e := Add(l, node, []byte("b"))
			if y, f := modelAdd(l, node, []byte("b")); e != f || !equal(x, y) {
				t.Errorf("%v, %d: got %v, %d", l, node, x, e)
			}
		}
	})
}

// P8.1, P8.4
func TestOrderOfLinks(t *testing.T) {
	l := long(4, 20)
	for i := range l {
		for j := range i {
			m := slices.Clone(l)
			m[i], m[j] = m[j], m[i]
			if e := Check(m); e != api.ErrChain {
				t.Errorf("%d and %d swapped: got %d", i, j, e)
			}
			if e := Check(l[j+1 : i+1]); e != api.ErrChain {
				t.Errorf("from %d to %d: got %d", j+1, i, e)
			}
		}
		if i < len(l)-1 {
			if e := Check(slices.Delete(slices.Clone(l), i, i+1)); e != api.ErrChain {
				t.Errorf("without %d: got %d", i, e)
			}
		}
		if e := Check(slices.Insert(slices.Clone(l), i, l[i])); e != api.ErrChain {
			t.Errorf("%d twice: got %d", i, e)
		}
	}
}

// P8.1
func TestBeginnings(t *testing.T) {
	l := long(4, 6)
	for stop := range 7 {
		n := 0
		for before, head := range beginnings(l) {
			if n == stop {
				break
			}
			_ = append(before, api.Link{Node: 99})
			if !equal(before, l[:n]) || head != modelHead(l[:n]) {
				t.Errorf("%d: got %v, %x", n, before, head)
			}
			n++
		}
		if !equal(l, long(4, 6)) {
			t.Errorf("%d: who appends to a beginning overwrites the link after it", stop)
		}
		if n != stop {
			t.Errorf("got %d beginnings instead of %d", n, stop)
		}
	}
}
