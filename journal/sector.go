package journal

import (
	"bytes"

	"kinesphere/api"
)

// Where the parts of a sector begin.
const (
	sumAt    = 4
	numberAt = 8
	kindAt   = 10
	lengthAt = 11
	dataAt   = 12
	againAt  = 124
)

const (
	// capacity is how many bytes of a record a sector holds.
	capacity = againAt - dataAt

	begins = 1
	ends   = 2

	polynomial = 0xEDB88320
)

// piece is what a sector holds of a record. Its kind is the sum of begins, if a record begins here, and of ends, if it ends here.
type piece struct {
	generation uint32
	number     int
	kind       byte
	data       []byte
}

func (p piece) begins() bool { return p.kind&begins != 0 }

func (p piece) ends() bool { return p.kind&ends != 0 }

// continues reports whether the sector of p continues that of q.
func (p piece) continues(q piece) bool {
	return p.generation == q.generation && p.number == q.number+1 && !q.ends() && !p.begins()
}

// sector returns the sector that holds a piece.
func (p piece) sector() [api.SectorSize]byte {
	var s [api.SectorSize]byte
	g := word(p.generation)
	copy(s[:], g[:])
	copy(s[againAt:], g[:])
	s[numberAt], s[numberAt+1] = byte(p.number>>8), byte(p.number)
	s[kindAt], s[lengthAt] = p.kind, byte(len(p.data))
	copy(s[dataAt:againAt], p.data)
	sum := word(checksum(s[numberAt:againAt]))
	copy(s[sumAt:], sum[:])
	return s
}

// read returns the piece in a sector; false unless the sector is good for a number. A good sector is one that Sync would write for
// what it says: so its checksum, the zero bytes and both generations are compared at once.
func read(s []byte, number int) (p piece, ok bool) {
	p = piece{generation: numeral(s[:sumAt]), number: number, kind: s[kindAt]}
	n := int(s[lengthAt])
	if p.generation == 0 || p.kind > begins|ends || n > capacity || !p.ends() && n < capacity || !p.begins() && n == 0 {
		return piece{}, false
	}
	p.data = s[dataAt : dataAt+n]
	form := p.sector()
	return p, bytes.Equal(s, form[:])
}

// generation returns the generation of the next sync. It is not in any sector, so that no torn one has it in both places.
func generation(sectors [][]byte) int {
	greatest := uint32(0)
	for _, s := range sectors {
		greatest = max(greatest, numeral(s[:sumAt]), numeral(s[againAt:]))
	}
	return int(greatest) + 1
}

// word returns the bytes of a number.
func word(n uint32) [4]byte {
	return [4]byte{byte(n >> 24), byte(n >> 16), byte(n >> 8), byte(n)}
}

// numeral returns the number that bytes represent.
func numeral(b []byte) uint32 {
	n := uint32(0)
	for _, c := range b {
		n = n<<8 | uint32(c)
	}
	return n
}

// checksum returns the checksum of bytes. It differs after each change of up to 32 bits in a row.
func checksum(b []byte) uint32 {
	n := ^uint32(0)
	for _, c := range b {
		n ^= uint32(c)
		for range 8 {
			out := n & 1
			n >>= 1
			if out == 1 {
				n ^= polynomial
			}
		}
	}
	return ^n
}
