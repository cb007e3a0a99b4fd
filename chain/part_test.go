package chain

import (
	"slices"
	"testing"

	"kinesphere/api"
)

// P8.3
func TestPart(t *testing.T) {
	a := linked(2, words("a", "b", "c", "d")...)
	for i, x := range []struct {
		a, b []api.Link
		i    int
		ok   bool
		e    api.Errno
	}{
		{nil, nil, 0, false, api.OK},
		{nil, []api.Link{}, 0, false, api.OK},
		{nil, a, 0, false, api.OK},
		{a, nil, 0, false, api.OK},
		{a, a, 0, false, api.OK},
		{a, a[:3], 0, false, api.OK},
		{a[:1], a, 0, false, api.OK},
		{a, linked(2, words("x", "b", "c", "d")...), 0, true, api.OK},
		{a, linked(2, words("a", "x", "c", "d")...), 1, true, api.OK},
		{a, linked(2, words("a", "b", "x")...), 2, true, api.OK},
		{a, linked(2, words("a", "b", "c", "")...), 3, true, api.OK},
		{a, linked(2, words("a", "b", "c", "dd", "e")...), 3, true, api.OK},
		{a, linked(3, words("a", "b", "c", "d")...), 0, false, api.ErrChain},
		{a, linked(3, words("x")...), 0, false, api.ErrChain},
		{linked(0, words("x")...), linked(23, words("x")...), 0, false, api.ErrChain},
	} {
		for _, y := range [][2][]api.Link{{x.a, x.b}, {x.b, x.a}} {
			kept := [2][]api.Link{cloned(y[0]), cloned(y[1])}
			if i2, ok, e := Part(y[0], y[1]); i2 != x.i || ok != x.ok || e != x.e {
				t.Errorf("%d: got %d, %v, %d", i, i2, ok, e)
			}
			if !equal(y[0], kept[0]) || !equal(y[1], kept[1]) {
				t.Errorf("%d: Part has changed its arguments", i)
			}
		}
	}
}

// P8.3: nil and empty data are equal.
func TestPartOfEmptyData(t *testing.T) {
	if i, ok, e := Part(linked(2, nil, []byte{}, nil), linked(2, []byte{}, nil, nil)); i != 0 || ok || e != api.OK {
		t.Errorf("got %d, %v, %d", i, ok, e)
	}
}

// P8.3
func TestPartOfLongChains(t *testing.T) {
	a := long(8, 1024)
	for _, at := range []int{0, 1, 511, 1022, 1023} {
		data := make([][]byte, len(a))
		for i, x := range a {
			data[i] = x.Data
		}
		data[at] = append(slices.Clone(data[at]), 1)
		b := linked(8, data...)
		if i, ok, e := Part(a, b); i != at || !ok || e != api.OK {
			t.Errorf("%d: got %d, %v, %d", at, i, ok, e)
		}
		if i, ok, e := Part(a, b[:at]); i != 0 || ok || e != api.OK {
			t.Errorf("%d: got %d, %v, %d", at, i, ok, e)
		}
	}
}

// P8.3
func TestPartOfAllSmallLists(t *testing.T) {
	lists := [][]api.Link{}
	small(1, func(l []api.Link) { lists = append(lists, l) })
	for node := range 3 {
		for _, s := range []string{"", "a", "b"} {
			for _, r := range []string{"", "a", "b"} {
				l := linked(node-1, words(s, r, "c")...)
				wrong := slices.Clone(l)
				wrong[2].Node++
				lists = append(lists, l[:1], l[:2], l, wrong, slices.Concat(l[:1], l[:1]))
			}
		}
	}
	for _, a := range lists {
		for _, b := range lists {
			i, ok, e := Part(a, b)
			if j, pk, f := modelPart(a, b); i != j || ok != pk || e != f {
				t.Errorf("%v, %v: got %d, %v, %d", a, b, i, ok, e)
			}
		}
	}
}

// P8.3
func TestOrderOfErrorsOfPart(t *testing.T) {
	good, other := linked(2, words("a", "b")...), linked(3, words("a")...)
	broken := slices.Clone(good)
	broken[1].No = 2
	tooLong := long(2, 1025)
	for i, x := range []struct {
		a, b []api.Link
		e    api.Errno
	}{
		{broken, tooLong, api.ErrChain},
		{tooLong, broken, api.ErrLimit},
		{tooLong, tooLong, api.ErrLimit},
		{good, tooLong, api.ErrLimit},
		{other, tooLong, api.ErrLimit},
		{tooLong, other, api.ErrLimit},
		{nil, broken, api.ErrChain},
		{broken, nil, api.ErrChain},
		{broken, broken, api.ErrChain},
		{good, other, api.ErrChain},
		{nil, tooLong, api.ErrLimit},
		{good, good, api.OK},
	} {
		if at, ok, e := Part(x.a, x.b); at != 0 || ok || e != x.e {
			t.Errorf("%d: got %d, %v, %d", i, at, ok, e)
		}
	}
}

// P8.3: in two chains, the fields of the first different links differ in the data alone; links are equal in all of them.
func TestLinksAreComparedInAllFields(t *testing.T) {
	x := linked(2, words("a", "bcd")...)[1]
	if !same(x, cloned([]api.Link{x})[0]) {
		t.Errorf("%v is not equal to itself", x)
	}
	for _, y := range changes(x) {
		if same(x, y) || same(y, x) {
			t.Errorf("%v and %v are equal", x, y)
		}
	}
}
