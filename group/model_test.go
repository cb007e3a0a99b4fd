package group

import (
	"crypto/sha256"
	"math/big"
	"math/rand/v2"
	"slices"

	"kinesphere/api"
)

// The model calculates with numbers of any size, as the definitions of the chapter do.

const (
	least    = -1 << 63
	greatest = 1<<63 - 1
)

var (
	p = big.NewInt(api.P)
	q = big.NewInt(api.Q)
)

func number(n int) *big.Int { return big.NewInt(int64(n)) }

// wantedElement is the definition: the power to Q is 1.
func wantedElement(x int) bool {
	return 1 <= x && x <= api.P-1 && new(big.Int).Exp(number(x), q, p).Cmp(number(1)) == 0
}

// wantedPower reduces the exponent first, as the definition does.
func wantedPower(a, n int) int {
	exponent := new(big.Int).Mod(number(n), q)
	return int(exponent.Exp(number(a), exponent, p).Int64())
}

func wantedProduct(a, b int) int {
	x := new(big.Int).Mul(number(a), number(b))
	return int(x.Mod(x, p).Int64())
}

func wantedHash(tag string, b []byte) int {
	t := sha256.Sum256([]byte(tag))
	d := sha256.Sum256(slices.Concat(t[:], b))
	x := new(big.Int).SetBytes(d[:8])
	x.SetBit(x, 63, 0)
	return int(x.Mod(x, q).Int64())
}

// edges are integers around which a calculation could go wrong.
func edges() []int {
	l := []int{least, least + 1, least + 2, greatest, greatest - 1, greatest - 2}
	for _, n := range []int{0, 1 << 8, 1 << 30, 1 << 31, 1 << 32, 1 << 61, 1 << 62, api.Q / 2, api.Q, 2 * api.Q, 5 * api.Q, api.P, 2 * api.P, api.P * api.Q, greatest / api.Q * api.Q, greatest / api.P * api.P} {
		for d := -3; d <= 3; d++ {
			l = append(l, n+d, -n+d)
		}
	}
	slices.Sort(l)
	return slices.Compact(l)
}

// random is a source of numbers that are the same in each run.
func random(seed uint64) *rand.Rand { return rand.New(rand.NewPCG(seed, 10)) }

// integers returns n integers of all sizes.
func integers(r *rand.Rand, n int) []int {
	l := make([]int, n)
	for i := range l {
		l[i] = int(r.Uint64()) >> r.IntN(64)
	}
	return l
}

// elements returns the smallest elements, the greatest ones, and further ones up to the number n.
func elements(r *rand.Rand, n int) []int {
	l := []int{1, 3, 4, 5, api.P - 2, api.P - 6}
	for len(l) < n {
		if x := 1 + r.IntN(api.P-1); wantedElement(x) {
			l = append(l, x)
		}
	}
	return l
}

// others returns integers that are no elements.
func others(r *rand.Rand, n int) []int {
	l := []int{0, 2, 6, 8, -1, -4, api.P - 1, api.P - 3, api.P - 4, api.P, api.P + 1, api.P + 4, 4 - api.P, 1 << 40, least, greatest}
	for len(l) < n {
		if x := 1 + r.IntN(api.P-1); !wantedElement(x) {
			l = append(l, x)
		}
	}
	return l
}
