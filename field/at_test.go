package field

import (
	"slices"
	"testing"

	"kinesphere/api"
)

// P9.2
func TestAt(t *testing.T) {
	line := []api.Point{{X: 1, Y: 3}, {X: 2, Y: 5}}
	for i, x := range []struct {
		l        []api.Point
		at, want int
		e        api.Errno
	}{
		{nil, 7, 0, api.OK},
		{[]api.Point{}, 7, 0, api.OK},
		{line, 0, 1, api.OK},
		{line, 1, 3, api.OK},
		{line, 2, 5, api.OK},
		{line, 10, 21, api.OK},
		{line, -1, api.Q - 1, api.OK},
		{line, api.Q + 10, 21, api.OK},
		{[]api.Point{{X: api.Q + 1, Y: 3 - api.Q}, {X: 2 - 5*api.Q, Y: 5 + api.Q}}, 10, 21, api.OK},
		{[]api.Point{{X: 4, Y: 9}}, 4, 9, api.OK},
		{[]api.Point{{X: 4, Y: -9}}, 5, api.Q - 9, api.OK},
		{[]api.Point{{X: 0, Y: 0}}, 5, 0, api.OK},
		{[]api.Point{{X: 0, Y: 0}, {X: 1, Y: 1}, {X: -1, Y: 1}}, 9, 81, api.OK},
		{[]api.Point{{X: 0, Y: 0}, {X: -1, Y: -1}}, 9, 9, api.OK},
		{[]api.Point{{X: 1, Y: 5}, {X: 1, Y: 5}}, 0, 0, api.ErrField},
		{[]api.Point{{X: 1, Y: 5}, {X: 1, Y: 6}}, 1, 0, api.ErrField},
		{[]api.Point{{X: 0, Y: 5}, {X: api.Q, Y: 5}}, 1, 0, api.ErrField},
		{[]api.Point{{X: -1, Y: 5}, {X: api.Q - 1, Y: 5}}, 1, 0, api.ErrField},
		{[]api.Point{{X: 3, Y: 5}, {X: 2, Y: 5}, {X: 3 - 2*api.Q, Y: 6}}, 1, 0, api.ErrField},
	} {
		kept := slices.Clone(x.l)
		if got, e := At(x.l, x.at); got != x.want || e != x.e {
			t.Errorf("%d: got %d, %d", i, got, e)
		}
		if !slices.Equal(x.l, kept) {
			t.Errorf("%d: At has changed its argument", i)
		}
	}
}

// P9.2: two equal X are found wherever they are, and also if nothing but them is asked for.
func TestAtOfEqualX(t *testing.T) {
	c := chance(5)
	for n := 2; n <= 64; n += 1 + n/8 {
		for j := range n {
			l := c.points(n)
			i := (j + 1 + c.below(n-1)) % n
			l[i].X = Mod(l[j].X) - api.Q*c.below(5)
			for _, at := range []int{0, l[i].X, l[j].X} {
				if y, e := At(l, at); y != 0 || e != api.ErrField {
					t.Errorf("%v at %d: got %d, %d", l, at, y, e)
				}
			}
		}
	}
}

// P9.2: the limit is examined before the points.
func TestAtOfManyPoints(t *testing.T) {
	l := make([]api.Point, 67)
	for i := range l {
		l[i] = api.Point{X: 3 * i, Y: 7*i + 1}
	}
	for n, want := range map[int]api.Errno{63: api.OK, 64: api.OK, 65: api.ErrLimit, 66: api.ErrLimit, 67: api.ErrLimit} {
		if y, e := At(l[:n], 30); e != want || y != map[api.Errno]int{api.OK: 71}[want] {
			t.Errorf("%d: got %d, %d", n, y, e)
		}
	}
	l[5].X = l[9].X
	if y, e := At(l[:64], 30); y != 0 || e != api.ErrField {
		t.Errorf("got %d, %d", y, e)
	}
	if y, e := At(l[:65], 30); y != 0 || e != api.ErrLimit {
		t.Errorf("got %d, %d", y, e)
	}
}

// P9.2, P9.4: all lists of up to three points with small numbers, compared with the polynomial that is found by elimination.
func TestAtOfSmallPoints(t *testing.T) {
	var small []api.Point
	for x := -1; x <= 2; x++ {
		for y := -1; y <= 1; y++ {
			small = append(small, api.Point{X: x, Y: y})
		}
	}
	small = append(small, api.Point{X: api.Q, Y: 1})
	lists := [][]api.Point{nil}
	for i := 0; i < len(lists); i++ {
		examine(t, lists[i], 3)
		if len(lists[i]) < 3 {
			for _, p := range small {
				lists = append(lists, append(slices.Clip(lists[i]), p))
			}
		}
	}
}

func examine(t *testing.T, l []api.Point, at int) {
	t.Helper()
	seen := map[int]bool{}
	for _, p := range l {
		seen[wanted(number(p.X))] = true
	}
	y, e := At(l, at)
	if len(seen) < len(l) {
		if y != 0 || e != api.ErrField {
			t.Errorf("%v: got %d, %d", l, y, e)
		}
		return
	}
	if e != api.OK || y != wantedValue(through(l), at) {
		t.Errorf("%v: got %d, %d", l, y, e)
	}
}

// P9.2, P9.4: long lists, compared with the polynomial that is found by elimination, also at their X.
func TestAtOfLongLists(t *testing.T) {
	c := chance(6)
	for _, n := range []int{1, 2, 3, 4, 5, 8, 13, 21, 34, 63, 64} {
		l := c.points(n)
		poly := through(l)
		for _, at := range append(c.numbers(10), edges()...) {
			if y, e := At(l, at); e != api.OK || y != wantedValue(poly, at) {
				t.Errorf("%d points at %d: got %d, %d", n, at, y, e)
			}
		}
		for _, p := range l {
			for _, at := range []int{p.X, Mod(p.X), Mod(p.X) - api.Q} {
				if y, e := At(l, at); e != api.OK || y != wanted(number(p.Y)) {
					t.Errorf("%d points at %d: got %d, %d", n, at, y, e)
				}
			}
		}
	}
}

// P9.2, P9.4: X and Y at the ends of what an int can hold.
func TestAtOfEdges(t *testing.T) {
	l := edges()
	for i, x := range l {
		for j, y := range l {
			examine(t, []api.Point{{X: x, Y: y}, {X: y, Y: x}, {X: 5, Y: l[(i+j)%len(l)]}}, x/2+y/3)
		}
	}
}

// pointsOf returns the points of a polynomial at these X.
func pointsOf(poly []int, xs []api.Point) []api.Point {
	var l []api.Point
	for _, p := range xs {
		l = append(l, api.Point{X: p.X, Y: wantedValue(poly, p.X)})
	}
	return l
}

// P9.4: n values determine a polynomial with n coefficients.
func TestAtReturnsThePolynomial(t *testing.T) {
	c := chance(7)
	for n := 0; n <= 64; n++ {
		poly := c.numbers(n)
		l := pointsOf(poly, c.points(n))
		for _, at := range append(c.numbers(4), 0, -1, least) {
			if y, e := At(l, at); e != api.OK || y != Value(poly, at) {
				t.Errorf("%d points at %d: got %d, %d", n, at, y, e)
			}
		}
	}
}

// P9.5: neither the order of the points nor further ones on the same polynomial change anything, until there are too many of them.
func TestAtOfOtherPoints(t *testing.T) {
	c := chance(8)
	for n := range 60 {
		poly := c.numbers(n)
		l := pointsOf(poly, c.points(65))
		at := c.numbers(1)[0]
		for m := n; m <= 64; m += 1 + c.below(6) {
			for i := range l[:m] {
				j := c.below(i + 1)
				l[i], l[j] = l[j], l[i]
			}
			if y, e := At(l[:m], at); e != api.OK || y != Value(poly, at) {
				t.Errorf("%d of %d points at %d: got %d, %d", m, n, at, y, e)
			}
		}
		if y, e := At(l, at); y != 0 || e != api.ErrLimit {
			t.Errorf("got %d, %d", y, e)
		}
	}
}

// P9.2: whoever asks for the other points may stop.
func TestOthers(t *testing.T) {
	l := []api.Point{{X: 1}, {X: 2}, {X: 3}, {X: 4}}
	for i := range l {
		want := slices.Concat(l[:i], l[i+1:])
		if got := slices.Collect(others(l, i)); !slices.Equal(got, want) {
			t.Errorf("%d: got %v", i, got)
		}
		for p := range others(l, i) {
			if p != want[0] {
				t.Errorf("%d: got %v", i, p)
			}
			break
		}
	}
}
