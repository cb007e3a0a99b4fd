package field

import (
	"math/big"
	"testing"

	"kinesphere/api"
)

// P9.1
func TestMod(t *testing.T) {
	for _, x := range []struct{ n, want int }{
		{0, 0}, {1, 1}, {-1, 1073741788}, {1073741788, 1073741788}, {1073741789, 0}, {1073741790, 1},
		{-1073741788, 1}, {-1073741789, 0}, {-1073741790, 1073741788}, {2147483577, 1073741788}, {2147483578, 0},
	} {
		if got := Mod(x.n); got != x.want {
			t.Errorf("Mod(%d): got %d", x.n, got)
		}
	}
	for _, n := range edges() {
		if got := Mod(n); got != wanted(number(n)) {
			t.Errorf("Mod(%d): got %d", n, got)
		}
	}
}

// P9.1
func TestAddAndMul(t *testing.T) {
	if Add(-1, -1) != 1073741787 || Add(1073741788, 1) != 0 || Mul(-1, -1) != 1 || Mul(1073741788, 2) != 1073741787 {
		t.Errorf("got %d, %d, %d, %d", Add(-1, -1), Add(1073741788, 1), Mul(-1, -1), Mul(1073741788, 2))
	}
	for _, a := range edges() {
		for _, b := range edges() {
			if got := Add(a, b); got != wanted(new(big.Int).Add(number(a), number(b))) {
				t.Errorf("Add(%d, %d): got %d", a, b, got)
			}
			if got := Mul(a, b); got != wanted(new(big.Int).Mul(number(a), number(b))) {
				t.Errorf("Mul(%d, %d): got %d", a, b, got)
			}
		}
	}
}

// P9.1
func TestInverse(t *testing.T) {
	for _, x := range []struct {
		n, want int
		e       api.Errno
	}{
		{0, 0, api.ErrField}, {1073741789, 0, api.ErrField}, {-1073741789, 0, api.ErrField}, {greatest / api.Q * api.Q, 0, api.ErrField},
		{1, 1, api.OK}, {2, 536870895, api.OK}, {-1, 1073741788, api.OK}, {1073741791, 536870895, api.OK}, {536870895, 2, api.OK},
	} {
		if got, e := Inverse(x.n); got != x.want || e != x.e {
			t.Errorf("Inverse(%d): got %d, %d", x.n, got, e)
		}
	}
	l := edges()
	for n := -1000; n <= 1000; n++ {
		l = append(l, n, n+api.Q)
	}
	c := chance(1)
	for _, n := range append(l, c.numbers(2000)...) {
		got, e := Inverse(n)
		want := new(big.Int).ModInverse(number(n), prime)
		if want == nil {
			if got != 0 || e != api.ErrField {
				t.Errorf("Inverse(%d): got %d, %d", n, got, e)
			}
		} else if got != wanted(want) || e != api.OK || Mul(got, n) != 1 {
			t.Errorf("Inverse(%d): got %d, %d", n, got, e)
		}
	}
}

// P9.3: for all of some numbers, three by three.
func TestField(t *testing.T) {
	c := chance(2)
	l := append(edges(), c.numbers(20)...)
	for _, x := range l {
		for _, y := range l {
			if Add(x, y) != Add(y, x) || Mul(x, y) != Mul(y, x) {
				t.Errorf("the order of %d and %d matters", x, y)
			}
			if (Mul(x, y) == 0) != (Mod(x) == 0 || Mod(y) == 0) {
				t.Errorf("the product of %d and %d is %d", x, y, Mul(x, y))
			}
			for _, z := range l[:40] {
				if Add(Add(x, y), z) != Add(x, Add(y, z)) || Mul(Mul(x, y), z) != Mul(x, Mul(y, z)) {
					t.Errorf("brackets matter for %d, %d and %d", x, y, z)
				}
				if Mul(Add(x, y), z) != Add(Mul(x, z), Mul(y, z)) {
					t.Errorf("the product of the sum of %d and %d with %d", x, y, z)
				}
			}
		}
	}
}
