package sign

import (
	"crypto/sha256"
	"encoding/binary"
	"math/big"
	"math/rand/v2"
	"slices"

	"kinesphere/api"
)

// The model calculates with numbers of any size, and with Go's own SHA-256 and varints.

const (
	least    = -1 << 63
	greatest = 1<<63 - 1
)

var (
	p = big.NewInt(api.P)
	q = big.NewInt(api.Q)
)

func integer(n int) *big.Int { return big.NewInt(int64(n)) }

// raised returns x to the power of n modulo P; n may be negative if x has an inverse.
func raised(x, n int) *big.Int { return new(big.Int).Exp(integer(x), integer(n), p) }

func times(x, y *big.Int) int {
	z := new(big.Int).Mul(x, y)
	return int(z.Mod(z, p).Int64())
}

// keyOf returns the key of a secret.
func keyOf(secret int) int { return int(raised(api.G, secret).Int64()) }

func wantedElement(x int) bool {
	return 1 <= x && x <= api.P-1 && raised(x, api.Q).Cmp(integer(1)) == 0
}

func appendNumber(l []byte, n int) []byte { return binary.AppendVarint(append(l, 1), int64(n)) }

func appendText(l, b []byte) []byte {
	return append(binary.AppendUvarint(append(l, 2), uint64(len(b))), b...)
}

// wantedNonce is the nonce before 0 is replaced.
func wantedNonce(secret int, b []byte) int {
	return wantedHash("nonce", appendText(appendNumber([]byte{3, 2}, secret), b))
}

func wantedChallenge(point, key int, b []byte) int {
	return wantedHash("sign", appendText(appendNumber(appendNumber([]byte{3, 3}, point), key), b))
}

func wantedHash(tag string, b []byte) int {
	t := sha256.Sum256([]byte(tag))
	d := sha256.Sum256(slices.Concat(t[:], b))
	x := new(big.Int).SetBytes(d[:8])
	x.SetBit(x, 63, 0)
	return int(x.Mod(x, q).Int64())
}

// wantedSig is what Sign is to return for a secret from 1 to Q - 1.
func wantedSig(secret int, b []byte) api.Sig {
	k := wantedNonce(secret, b)
	if k == 0 {
		k = 1
	}
	return made(secret, k, keyOf(secret), b)
}

// made returns the signature with the nonce k for a key that need not be the one of the secret.
func made(secret, k, key int, b []byte) (s api.Sig) {
	s.E = wantedChallenge(keyOf(k), key, b)
	x := new(big.Int).Mul(integer(s.E), integer(secret))
	x.Add(x, integer(k))
	s.S = int(x.Mod(x, q).Int64())
	return s
}

// wantedPoint is for a key that is an element.
func wantedPoint(key int, s api.Sig) int { return times(raised(api.G, s.S), raised(key, -s.E)) }

func wantedRight(key int, b []byte, s api.Sig) bool {
	return wantedElement(key) && 0 <= s.E && s.E <= api.Q-1 && 0 <= s.S && s.S <= api.Q-1 &&
		s.E == wantedChallenge(wantedPoint(key, s), key, b)
}

// random is a source of numbers that are the same in each run.
func random(seed uint64) *rand.Rand { return rand.New(rand.NewPCG(seed, 11)) }

// edges are integers around which a condition or a calculation could go wrong.
func edges() []int {
	l := []int{least, least + 1, greatest, greatest - 1}
	for _, n := range []int{0, 1 << 8, 1 << 30, 1 << 31, 1 << 62, api.Q, 2 * api.Q, api.P, 2 * api.P, api.P * api.Q, greatest / api.Q * api.Q} {
		for d := -2; d <= 2; d++ {
			l = append(l, n+d, -n+d)
		}
	}
	slices.Sort(l)
	return slices.Compact(l)
}

// secrets returns the secrets at both ends, those whose encodings change their length, and others.
func secrets(r *rand.Rand, others int) []int {
	l := []int{1, 2, 3, 4, 5, 63, 64, 65, 8191, 8192, 1<<20 - 1, 1 << 20, 1<<27 - 1, 1 << 27, api.Q / 2, api.Q/2 + 1, api.Q - 3, api.Q - 2, api.Q - 1}
	for range others {
		l = append(l, 1+r.IntN(api.Q-1))
	}
	return l
}

func bytesOf(r *rand.Rand, n int) []byte {
	b := make([]byte, n)
	for i := range b {
		b[i] = byte(r.Uint32())
	}
	return b
}

// texts returns short texts that resemble each other, and some of n further lengths.
func texts(r *rand.Rand, n int) [][]byte {
	l := [][]byte{nil, {0}, {0, 0}, {1}, {2, 0}, {3, 0}, {255}, {128, 0}, []byte("a"), []byte("b"), []byte("ab"), []byte("a letter"), []byte("\xff\xfe\x00\x80"), []byte("\xed\xa0\x80")}
	for i := range n {
		l = append(l, bytesOf(r, i))
	}
	return l
}
