package group

import (
	"bytes"
	"math/big"
	"testing"

	"kinesphere/api"
)

// P10.1
func TestValid(t *testing.T) {
	for _, x := range []int{1, 3, 4, 5, 7, 9, 12, 16, api.P - 2, api.P - 6, api.P - 8, 536870895} {
		if !Valid(x) {
			t.Errorf("%d is an element", x)
		}
	}
	for _, x := range []int{0, 2, 6, 8, -1, -3, -4, least, greatest, api.P - 1, api.P - 3, api.P - 4, api.P, api.P + 1, api.P + 4, 2*api.P + 1} {
		if Valid(x) {
			t.Errorf("%d is no element", x)
		}
	}
	l := append(edges(), integers(random(1), 5000)...)
	for n := -2000; n <= 2000; n++ {
		l = append(l, n, n+api.Q, n+api.P, n+1<<31)
	}
	for _, x := range l {
		if Valid(x) != wantedElement(x) {
			t.Errorf("%d: got %v", x, Valid(x))
		}
	}
}

// P10.1
func TestMul(t *testing.T) {
	for _, x := range []struct{ a, b, c int }{
		{4, 4, 16}, {3, 5, 15}, {1, 1, 1}, {1, api.P - 2, api.P - 2}, {api.P - 2, api.P - 2, 4}, {api.P - 2, 3, api.P - 6}, {536870895, 4, 1},
	} {
		if c, e := Mul(x.a, x.b); c != x.c || e != api.OK {
			t.Errorf("%d and %d: got %d, %d", x.a, x.b, c, e)
		}
	}
	l := elements(random(2), 100)
	for _, a := range l {
		for _, b := range l {
			if c, e := Mul(a, b); c != wantedProduct(a, b) || e != api.OK {
				t.Errorf("%d and %d: got %d, %d", a, b, c, e)
			}
		}
	}
}

// P10.1
func TestPow(t *testing.T) {
	for _, x := range []struct{ a, n, c int }{
		{4, 2, 16}, {4, api.Q, 1}, {4, 0, 1}, {4, 1, 4}, {4, -1, 536870895}, {4, 1 - api.Q, 4}, {4, 1 + api.Q, 4}, {4, api.Q - 1, 536870895},
		{3, 4, 81}, {5, 13, 1220703125}, {1, greatest, 1}, {1, least, 1}, {api.P - 2, 2, 4}, {api.P - 2, 3, api.P - 8},
	} {
		if c, e := Pow(x.a, x.n); c != x.c || e != api.OK {
			t.Errorf("%d to %d: got %d, %d", x.a, x.n, c, e)
		}
	}
	r := random(3)
	exponents := append(edges(), integers(r, 100)...)
	for n := -70; n <= 70; n++ {
		exponents = append(exponents, n)
	}
	for _, a := range elements(r, 60) {
		for _, n := range exponents {
			if c, e := Pow(a, n); c != wantedPower(a, n) || e != api.OK {
				t.Errorf("%d to %d: got %d, %d", a, n, c, e)
			}
		}
	}
}

// P10.1, P10.2: whatever the other argument is.
func TestNoElements(t *testing.T) {
	r := random(4)
	l := append(others(r, 60), edges()...)
	for _, a := range l {
		if wantedElement(a) {
			continue
		}
		if n, e := Number(a); n != 0 || e != api.ErrGroup {
			t.Errorf("the number of %d: got %d, %d", a, n, e)
		}
		for _, b := range append(l, elements(r, 10)...) {
			if c, e := Mul(a, b); c != 0 || e != api.ErrGroup {
				t.Errorf("%d and %d: got %d, %d", a, b, c, e)
			}
			if c, e := Mul(b, a); c != 0 || e != api.ErrGroup {
				t.Errorf("%d and %d: got %d, %d", b, a, c, e)
			}
			if c, e := Pow(a, b); c != 0 || e != api.ErrGroup {
				t.Errorf("%d to %d: got %d, %d", a, b, c, e)
			}
		}
	}
}

// P10.2
func TestElement(t *testing.T) {
	for _, x := range []struct {
		n, x int
		e    api.Errno
	}{
		{4, 4, api.OK}, {1, 1, api.OK}, {2, api.P - 2, api.OK}, {3, 3, api.OK}, {6, api.P - 6, api.OK}, {8, api.P - 8, api.OK},
		{0, 0, api.ErrArg}, {-1, 0, api.ErrArg}, {-4, 0, api.ErrArg}, {api.Q + 1, 0, api.ErrArg}, {api.Q + 2, 0, api.ErrArg},
		{api.P - 2, 0, api.ErrArg}, {api.P, 0, api.ErrArg}, {api.P + 4, 0, api.ErrArg}, {least, 0, api.ErrArg}, {greatest, 0, api.ErrArg},
	} {
		if y, e := Element(x.n); y != x.x || e != x.e {
			t.Errorf("%d: got %d, %d", x.n, y, e)
		}
	}
	for _, n := range edges() {
		y, e := Element(n)
		switch {
		case n < 1 || n > api.Q:
			if y != 0 || e != api.ErrArg {
				t.Errorf("%d: got %d, %d", n, y, e)
			}
		case y != n && y != api.P-n || !wantedElement(y) || e != api.OK:
			t.Errorf("%d: got %d, %d", n, y, e)
		}
	}
}

// P10.2
func TestNumber(t *testing.T) {
	for _, x := range []struct{ x, n int }{{1, 1}, {api.P - 2, 2}, {3, 3}, {4, 4}, {api.P - 6, 6}, {api.P - 8, 8}, {536870895, 536870895}} {
		if n, e := Number(x.x); n != x.n || e != api.OK {
			t.Errorf("%d: got %d, %d", x.x, n, e)
		}
	}
	for _, x := range elements(random(5), 3000) {
		want := x
		if x > api.Q {
			want = api.P - x
		}
		if n, e := Number(x); n != want || e != api.OK {
			t.Errorf("%d: got %d, %d", x, n, e)
		}
	}
}

// P10.3
func TestHash(t *testing.T) {
	r := random(6)
	for _, tag := range []string{"", "tag", "sign", "a longer tag, which does not fit into a single block of the hash function: it has 88 bytes"} {
		for n := range 300 {
			b := make([]byte, n)
			for i := range b {
				b[i] = byte(r.Uint32())
			}
			kept := bytes.Clone(b)
			if got := Hash(tag, b); got != wantedHash(tag, b) || got < 0 || got >= api.Q {
				t.Errorf("%q and %v: got %d", tag, kept, got)
			}
			if !bytes.Equal(b, kept) {
				t.Errorf("%v: Hash has changed its argument", kept)
			}
		}
	}
	if Hash("tag", nil) != Hash("tag", []byte{}) {
		t.Errorf("got %d for nil", Hash("tag", nil))
	}
}

// mul and pow are for elements alone.
func mul(t *testing.T, a, b int) int {
	t.Helper()
	c, e := Mul(a, b)
	if e != api.OK || !Valid(c) {
		t.Errorf("%d and %d: got %d, %d", a, b, c, e)
	}
	return c
}

func pow(t *testing.T, a, n int) int {
	t.Helper()
	c, e := Pow(a, n)
	if e != api.OK || !Valid(c) {
		t.Errorf("%d to %d: got %d, %d", a, n, c, e)
	}
	return c
}

// P10.4: for all of some elements, three by three.
func TestProducts(t *testing.T) {
	l := elements(random(7), 40)
	for _, a := range l {
		if mul(t, a, 1) != a || mul(t, 1, a) != a {
			t.Errorf("1 changes %d", a)
		}
		if mul(t, a, pow(t, a, -1)) != 1 || mul(t, pow(t, a, -1), a) != 1 {
			t.Errorf("the inverse of %d is not %d", a, pow(t, a, -1))
		}
		for _, b := range l {
			if mul(t, a, b) != mul(t, b, a) {
				t.Errorf("the order of %d and %d matters", a, b)
			}
			for _, c := range l {
				if mul(t, mul(t, a, b), c) != mul(t, a, mul(t, b, c)) {
					t.Errorf("brackets matter for %d, %d and %d", a, b, c)
				}
			}
		}
	}
}

// P10.4: exponents of all sizes, of which the sums and the products that are too great for an int are reduced modulo Q.
func TestPowersOfPowers(t *testing.T) {
	r := random(8)
	exponents := append([]int{0, 1, -1, 2, -8, api.Q - 1, api.Q, api.Q + 1, -api.Q, 1 << 60, greatest, least}, integers(r, 20)...)
	for _, a := range elements(r, 20) {
		for _, m := range exponents {
			for _, n := range exponents {
				sum := new(big.Int).Add(number(m), number(n))
				if mul(t, pow(t, a, m), pow(t, a, n)) != pow(t, a, int(sum.Mod(sum, q).Int64())) {
					t.Errorf("%d to %d and to %d", a, m, n)
				}
				product := new(big.Int).Mul(number(m), number(n))
				if pow(t, pow(t, a, m), n) != pow(t, a, int(product.Mod(product, q).Int64())) {
					t.Errorf("%d to %d, to %d", a, m, n)
				}
			}
		}
	}
}

// P10.4: the squares of n and P - n are equal; no other numbers are elements.
func TestSquares(t *testing.T) {
	r := random(9)
	for n := range 20000 {
		x := 1 + n
		if n >= 10000 {
			x = 1 + r.IntN(api.P-1)
		}
		y := wantedProduct(x, x)
		if !Valid(y) || Valid(api.P-y) || wantedProduct(api.P-x, api.P-x) != y {
			t.Errorf("%d: %d is a square, and %d is none", x, y, api.P-y)
		}
		root := new(big.Int).ModSqrt(number(x), p)
		if Valid(x) != (root != nil) {
			t.Errorf("%d: got %v", x, Valid(x))
		}
	}
}

// P10.4: the order of each element but 1 is Q, since Q is a prime, so each is a power of G.
func TestOrder(t *testing.T) {
	if !q.ProbablyPrime(20) || !p.ProbablyPrime(20) || api.P != 2*api.Q+1 {
		t.Errorf("%d and %d", api.P, api.Q)
	}
	for i, a := range append(elements(random(10), 1000), api.G) {
		if pow(t, a, api.Q) != 1 || pow(t, a, api.Q-1) != pow(t, a, -1) {
			t.Errorf("%d: the power to Q is %d", a, pow(t, a, api.Q))
		}
		if (pow(t, a, 1) == 1) != (i == 0) {
			t.Errorf("%d: the power to 1 is %d", a, pow(t, a, 1))
		}
	}
	seen := map[int]bool{}
	for n := range 5000 {
		seen[pow(t, api.G, n)] = true
	}
	if len(seen) != 5000 {
		t.Errorf("got %d powers of G", len(seen))
	}
}

// P10.5
func TestNumbersAndElements(t *testing.T) {
	r := random(11)
	for i := range 60000 {
		n := 1 + i
		switch {
		case i >= 40000:
			n = 1 + r.IntN(api.Q)
		case i >= 20000:
			n = api.Q - (i - 20000)
		}
		x, e := Element(n)
		if back, f := Number(x); back != n || e != api.OK || f != api.OK {
			t.Errorf("%d: got %d, %d, %d, %d", n, x, e, back, f)
		}
		if Valid(n) == Valid(api.P-n) {
			t.Errorf("%d and %d", n, api.P-n)
		}
	}
	for _, x := range elements(r, 5000) {
		n, e := Number(x)
		if back, f := Element(n); back != x || e != api.OK || f != api.OK {
			t.Errorf("%d: got %d, %d, %d, %d", x, n, e, back, f)
		}
	}
}

// P10.1: whoever asks for squares may stop, and ask again.
func TestSquaresOneByOne(t *testing.T) {
	l := squares(api.P - 2)
	for range 2 {
		want := []int{api.P - 2, 4, 16, 256, 65536, 65536*65536 - 2*api.P}
		for x := range l {
			if x != want[0] {
				t.Errorf("got %d, not %d", x, want[0])
			}
			if want = want[1:]; len(want) == 0 {
				break
			}
		}
	}
}
