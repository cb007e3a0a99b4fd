package field

import (
	"slices"
	"testing"

	"kinesphere/api"
)

// P9.2
func TestValue(t *testing.T) {
	for i, x := range []struct {
		poly     []int
		at, want int
	}{
		{nil, 7, 0}, {[]int{}, 0, 0}, {[]int{1, 2, 3}, 10, 321}, {[]int{5}, 0, 5}, {[]int{5, 6, 7}, 0, 5}, {[]int{5, 6, 7}, api.Q, 5},
		{[]int{5, 6, 7}, 1, 18}, {[]int{5, 6, 7}, -1, 6}, {[]int{-5}, 3, api.Q - 5}, {[]int{0, 1}, -1, api.Q - 1}, {[]int{0, 0, 0, 1}, -2, api.Q - 8},
		{[]int{1, 2, 3, 0, api.Q}, 10, 321}, {[]int{api.Q - 1, 1}, 1, 0}, {[]int{0, 0, 1}, 1 << 15, 35},
	} {
		if got := Value(x.poly, x.at); got != x.want {
			t.Errorf("%d: got %d", i, got)
		}
	}
}

// P9.2: the coefficients and the number stand for numbers, of whatever size they are.
func TestValueIsTheSum(t *testing.T) {
	c := chance(3)
	for i := range 600 {
		poly, at := c.numbers(i%130), c.numbers(1)[0]
		kept := slices.Clone(poly)
		if got := Value(poly, at); got != wantedValue(poly, at) {
			t.Errorf("%v at %d: got %d", poly, at, got)
		}
		if !slices.Equal(poly, kept) {
			t.Errorf("%v: Value has changed its argument", kept)
		}
	}
	for _, a := range edges() {
		for _, b := range edges() {
			if got := Value([]int{a, b, a}, b); got != wantedValue([]int{a, b, a}, b) {
				t.Errorf("%d, %d: got %d", a, b, got)
			}
		}
	}
}

// P9.2: there is no limit to the number of coefficients. All powers of 1 are 1, and those of -1 are 1 and -1.
func TestValueOfManyCoefficients(t *testing.T) {
	poly := make([]int, 1<<20+1)
	for i := range poly {
		poly[i] = greatest
	}
	if got := Value(poly, 1); got != Mul(greatest, 1<<20+1) {
		t.Errorf("got %d", got)
	}
	if got := Value(poly, -1); got != Mod(greatest) {
		t.Errorf("got %d", got)
	}
}

// P9.5: values of sums of polynomials are sums of values.
func TestValueOfSums(t *testing.T) {
	c := chance(4)
	for i := range 500 {
		a, b, at := c.numbers(i%20), c.numbers(i%33), c.numbers(1)[0]
		sums := make([]int, max(len(a), len(b)))
		for j, n := range a {
			sums[j] = n
		}
		for j, n := range b {
			sums[j] = Add(sums[j], n)
		}
		if Value(sums, at) != Add(Value(a, at), Value(b, at)) {
			t.Errorf("%v and %v at %d: got %d", a, b, at, Value(sums, at))
		}
	}
}
