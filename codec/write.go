package codec

import (
	"math/bits"

	"kinesphere/api"
)

// writer is how the values of one kind are measured and written, after the byte of the kind.
type writer struct {
	size  func(v api.Value) int
	write func(b []byte, v api.Value) []byte
}

// writers is indexed by the kind. A function builds it, since lists refer to it in turn.
func writers() [api.ListV + 1]writer {
	return [api.ListV + 1]writer{
		api.IntV:  {size: sizeInt, write: writeInt},
		api.TextV: {size: sizeText, write: writeText},
		api.ListV: {size: sizeList, write: writeList},
	}
}

// size returns the length of the encoding of v, which is well-formed.
func size(v api.Value) int {
	return 1 + writers()[v.Kind].size(v)
}

// write appends the encoding of v, which is well-formed, to b.
func write(b []byte, v api.Value) []byte {
	return writers()[v.Kind].write(append(b, byte(v.Kind)), v)
}

func sizeInt(v api.Value) int { return sizeNumeral(unsigned(v.N)) }

func sizeText(v api.Value) int { return sizeNumeral(uint64(len(v.S))) + len(v.S) }

func sizeList(v api.Value) int {
	n := sizeNumeral(uint64(len(v.L)))
	for _, x := range v.L {
		n += size(x)
	}
	return n
}

func writeInt(b []byte, v api.Value) []byte { return writeNumeral(b, unsigned(v.N)) }

func writeText(b []byte, v api.Value) []byte {
	return append(writeNumeral(b, uint64(len(v.S))), v.S...)
}

func writeList(b []byte, v api.Value) []byte {
	b = writeNumeral(b, uint64(len(v.L)))
	for _, x := range v.L {
		b = write(b, x)
	}
	return b
}

// sizeNumeral returns the number of digits of u to the base 128. (Zero has one digit, but no bits.)
func sizeNumeral(u uint64) int { return max(1, (bits.Len64(u)+6)/7) }

func writeNumeral(b []byte, u uint64) []byte {
	for u >= 128 {
		b = append(b, byte(u%128)+128)
		u /= 128
	}
	return append(b, byte(u))
}

// unsigned returns 2n or, if n is negative, -2n - 1.
func unsigned(n int) uint64 {
	if n >= 0 {
		return 2 * uint64(n)
	}
	// ^n is -n - 1, which an int can hold even for the least n.
	return 2*uint64(^n) + 1
}
