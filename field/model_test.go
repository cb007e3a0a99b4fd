package field

import (
	"math/big"

	"kinesphere/api"
)

// The model calculates with numbers of any size, and finds a polynomial by elimination.

var prime = big.NewInt(api.Q)

const (
	least    = -1 << 63
	greatest = 1<<63 - 1
)

// edges are integers around which a calculation could go wrong.
func edges() []int {
	l := []int{least, least + 1, least + 2, greatest, greatest - 1, 123456789, -987654321012345678}
	for _, n := range []int{0, 1 << 15, 1 << 29, 1 << 30, 1 << 31, 1 << 32, 1 << 60, 1 << 61, 1 << 62, api.Q / 2, api.Q, 2 * api.Q, 3 * api.Q, api.Q * api.Q, greatest / api.Q * api.Q} {
		for d := -2; d <= 2; d++ {
			l = append(l, n+d, -n+d)
		}
	}
	return l
}

func wanted(x *big.Int) int { return int(new(big.Int).Mod(x, prime).Int64()) }

func number(n int) *big.Int { return big.NewInt(int64(n)) }

// wantedValue is the sum of the coefficients, each times a power that is computed on its own.
func wantedValue(poly []int, at int) int {
	x := new(big.Int)
	base := number(wanted(number(at)))
	for i, c := range poly {
		power := new(big.Int).Exp(base, number(i), prime)
		x.Add(x, power.Mul(power, number(c)))
	}
	return wanted(x)
}

// through finds the coefficients of the polynomial through points with different X.
func through(l []api.Point) []int {
	rows := make([][]*big.Int, len(l))
	for i, p := range l {
		for j := range l {
			rows[i] = append(rows[i], new(big.Int).Exp(number(wanted(number(p.X))), number(j), prime))
		}
		rows[i] = append(rows[i], number(p.Y))
	}
	for column := range l {
		eliminate(rows, column)
	}
	poly := make([]int, len(l))
	for i, row := range rows {
		poly[i] = wanted(row[len(l)])
	}
	return poly
}

// eliminate makes one number of a column 1, and all others 0.
func eliminate(rows [][]*big.Int, column int) {
	pivot := column
	for rows[pivot][column].Sign() == 0 {
		pivot++
	}
	rows[column], rows[pivot] = rows[pivot], rows[column]
	inverse := new(big.Int).ModInverse(rows[column][column], prime)
	for j, x := range rows[column] {
		rows[column][j] = number(wanted(new(big.Int).Mul(x, inverse)))
	}
	for i, row := range rows {
		if i == column {
			continue
		}
		factor := row[column]
		for j, x := range row {
			row[j] = number(wanted(new(big.Int).Sub(x, new(big.Int).Mul(factor, rows[column][j]))))
		}
	}
}

// chance is a source of numbers that are the same in each run.
type chance uint64

func (c *chance) next() int {
	*c = *c*6364136223846793005 + 1442695040888963407
	high := uint64(*c) >> 32
	*c = *c*6364136223846793005 + 1442695040888963407
	return int(high<<32 | uint64(*c)>>32)
}

// below returns a number from 0 to n - 1.
func (c *chance) below(n int) int { return int(uint(c.next()) % uint(n)) }

// numbers returns n integers of all sizes.
func (c *chance) numbers(n int) []int {
	l := make([]int, n)
	for i := range l {
		l[i] = c.next() >> c.below(64)
	}
	return l
}

// points returns n points with X that stand for different numbers.
func (c *chance) points(n int) []api.Point {
	seen := map[int]bool{}
	var l []api.Point
	for len(l) < n {
		p := c.numbers(2)
		if x := wanted(number(p[0])); !seen[x] {
			seen[x] = true
			l = append(l, api.Point{X: p[0], Y: p[1]})
		}
	}
	return l
}
