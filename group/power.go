package group

import (
	"iter"

	"kinesphere/api"
	"kinesphere/field"
)

// modulo returns the number from 0 to Q - 1 that is congruent to the sum of some integers modulo Q: an exponent that is not negative.
func modulo(l ...int) (n int) {
	for _, x := range l {
		n = field.Add(n, x)
	}
	return n
}

// product multiplies two numbers from 0 to P - 1.
func product(a, b int) int {
	// P is less than 2^31: the product is less than 2^62.
	return a * b % api.P
}

// power returns x to the power of n, which is not negative: each bit of n, the lowest one first, stands for a square.
func power(x, n int) (c int) {
	c = 1
	for y := range squares(x) {
		if n == 0 {
			break
		}
		if n&1 == 1 {
			c = product(c, y)
		}
		n >>= 1
	}
	return c
}

// squares yields x, the square of x, the square of this square, and so on without an end.
func squares(x int) iter.Seq[int] {
	return func(yield func(y int) bool) {
		for y := x; yield(y); y = product(y, y) {
		}
	}
}

// square reports whether x, from 1 to P - 1, is a square modulo P, by the law of quadratic reciprocity.
func square(x int) (ok bool) {
	// In each turn, ok tells whether the Jacobi symbol of x and P is that of top and below, and not its negative.
	top, below, ok := x, api.P, true
reduce:
	for {
		switch {
		case top == 1:
			break reduce
		case top%2 == 0:
			// 2 has the symbol -1 below numbers that are 3 or 5 modulo 8.
			if r := below % 8; r == 3 || r == 5 {
				ok = !ok
			}
			top /= 2
		default:
			// Odd numbers change places: their symbols differ if both are 3 modulo 4. P is a prime, so no remainder is 0 before one is 1.
			if top%4 == 3 && below%4 == 3 {
				ok = !ok
			}
			top, below = below%top, top
		}
	}
	return ok
}
