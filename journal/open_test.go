package journal

import (
	"bytes"
	"hash/crc32"
	"math"
	"math/bits"
	"regexp"
	"slices"
	"strings"
	"testing"

	"kinesphere/api"
)

// P5.1

func TestOpenOfNewDisk(t *testing.T) {
	for _, n := range []int{1, 2, 100, 4095, 4096} {
		for _, left := range []int{-1, 0, 1, 65536} {
			d := diskOf(n)
			d.Left = left
			if j, e := Open(d); e != api.OK || !sameJournal(j, api.Journal{Many: n}) {
				t.Error(n, left, j, e)
			}
		}
	}
}

// wrongDisk is a disk that does not hold a journal, and why.
type wrongDisk struct {
	d api.Disk
	e api.Errno
}

// wrongDisks are disks with several things that are wrong, the first of which is to be told.
func wrongDisks() (l []wrongDisk) {
	write := []api.Write{{At: 0, Data: make([]byte, 128)}}
	for _, left := range []int{-1, 0, 65536} {
		for _, s := range [][][]byte{diskOf(3).Sectors, sectors(1, 0, filled(300, 4))} {
			l = append(l,
				wrongDisk{api.Disk{Sectors: s, Left: left, Stopped: true}, api.ErrDisk},
				wrongDisk{api.Disk{Sectors: s, Left: left, Stopped: true, Pending: write}, api.ErrDisk},
				wrongDisk{api.Disk{Sectors: s, Left: left, Pending: write}, api.ErrArg},
				wrongDisk{api.Disk{Sectors: s, Left: left, Pending: slices.Repeat(write, 4096)}, api.ErrArg},
				wrongDisk{api.Disk{Sectors: s, Left: left, Pending: slices.Repeat(write, 4097)}, api.ErrDisk},
				wrongDisk{api.Disk{Sectors: s, Left: left, Pending: []api.Write{{At: 3, Data: make([]byte, 128)}}}, api.ErrDisk},
				wrongDisk{api.Disk{Sectors: s, Left: left, Pending: []api.Write{{At: 0, Data: make([]byte, 127)}}}, api.ErrDisk})
		}
		for _, n := range []int{0, 1, 11, 12, 123, 127, 129} {
			l = append(l, wrongDisk{api.Disk{Sectors: [][]byte{make([]byte, 128), make([]byte, n)}, Left: left}, api.ErrDisk})
		}
		l = append(l, wrongDisk{api.Disk{Left: left}, api.ErrDisk}, wrongDisk{api.Disk{Sectors: diskOf(4097).Sectors, Left: left}, api.ErrDisk})
	}
	for _, left := range []int{-2, 65537, math.MinInt, math.MaxInt} {
		l = append(l, wrongDisk{api.Disk{Sectors: diskOf(3).Sectors, Left: left}, api.ErrDisk})
	}
	return append(l, wrongDisk{api.Disk{}, api.ErrDisk})
}

func TestOpenOfWrongDisks(t *testing.T) {
	for i, x := range wrongDisks() {
		if j, e := Open(x.d); e != x.e || !isZero(j) {
			t.Error(i, j, e)
		}
	}
}

// holds reports whether exactly these records are on a disk that has two sectors more.
func holds(t *testing.T, l [][]byte, records ...[]byte) bool {
	t.Helper()
	want := api.Journal{Records: records, Many: len(l) + 2, Synced: len(records)}
	return sameJournal(opened(t, diskOf(len(l)+2, l...)), want)
}

// All values of the bytes 10 and 11, in each place of a record of three sectors.
func TestKindsAndLengths(t *testing.T) {
	full := filled(112, 5)
	for kind := range 256 {
		for n := range 256 {
			data := filled(min(n, 112), 6)
			set := func(k int) []byte {
				s := sector(1, k, byte(kind), data)
				s[11] = byte(n)
				return sealed(s)
			}
			first := holds(t, [][]byte{set(0)}, data)
			if first != (kind == 3 && n <= 112) || !first && !holds(t, [][]byte{set(0)}) {
				t.Fatal(kind, n, "alone")
			}
			two := [][]byte{set(0), sector(1, 1, 2, full)}
			if holds(t, two, slices.Concat(data, full)) != (kind == 1 && n == 112) {
				t.Fatal(kind, n, "first")
			}
			two = [][]byte{sector(1, 0, 1, full), set(1)}
			if holds(t, two, slices.Concat(full, data)) != (kind == 2 && n >= 1 && n <= 112) {
				t.Fatal(kind, n, "last")
			}
			three := [][]byte{sector(1, 0, 1, full), set(1), sector(1, 2, 2, full)}
			if holds(t, three, slices.Concat(full, data, full)) != (kind == 0 && n == 112) {
				t.Fatal(kind, n, "middle")
			}
		}
	}
}

// Only zero bytes may follow those of the record, also if the checksum is right.
func TestBytesAfterTheRecord(t *testing.T) {
	for n := range 112 {
		for at := n; at < 112; at++ {
			s := sector(1, 0, 3, filled(n, 9))
			s[12+at] = byte(1 << (at % 8))
			if !holds(t, [][]byte{sealed(s)}) {
				t.Fatal(n, at)
			}
			s = sector(1, 1, 2, filled(n, 9))
			s[12+at] = byte(1 << (at % 8))
			if !holds(t, [][]byte{sector(1, 0, 1, filled(112, 5)), sealed(s)}) {
				t.Fatal(n, at)
			}
		}
	}
}

func TestGenerationsOfASector(t *testing.T) {
	for _, g := range []uint32{1, 2, 127, 128, 255, 256, 65535, 65536, 1 << 24, 0x01020304, 1 << 31, math.MaxUint32 - 1, math.MaxUint32} {
		if !holds(t, sectors(g, 0, filled(113, 3)), filled(113, 3)) {
			t.Error(g)
		}
		for _, at := range []int{0, 1, 2, 3, 124, 125, 126, 127} {
			s := sector(g, 0, 3, filled(4, 3))
			s[at] ^= 64
			if !holds(t, [][]byte{s}) {
				t.Error(g, at)
			}
		}
		// No generation at all is not a good one, in one place or in both.
		for _, places := range [][]int{{0}, {124}, {0, 124}} {
			s := sector(g, 0, 3, filled(4, 3))
			for _, at := range places {
				copy(s[at:at+4], make([]byte, 4))
			}
			if !holds(t, [][]byte{s}) {
				t.Error(g, places)
			}
		}
	}
}

func TestChecksum(t *testing.T) {
	if n := checksum([]byte("123456789")); n != 3421780262 {
		t.Error(n)
	}
	for n := range 300 {
		b := filled(n, byte(n*7))
		if checksum(b) != crc32.ChecksumIEEE(b) {
			t.Error(n)
		}
	}
	for bit := range 32 {
		s := sector(1, 0, 3, filled(4, 3))
		s[4+bit/8] ^= 1 << (bit % 8)
		if !holds(t, [][]byte{s}) {
			t.Error(bit)
		}
	}
	// The checksum is that of the bytes 8 to 123 alone, with the most significant byte first.
	s := sector(1, 0, 3, filled(4, 3))
	for _, sum := range []uint32{crc32.ChecksumIEEE(s[12:124]), crc32.ChecksumIEEE(s[8:]), crc32.ChecksumIEEE(s[8:16]), ^crc32.ChecksumIEEE(s[8:124]), bits.ReverseBytes32(crc32.ChecksumIEEE(s[8:124])), 0} {
		w := word(sum)
		x := slices.Concat(s[:4], w[:], s[8:])
		if !holds(t, [][]byte{x}) {
			t.Error(sum)
		}
	}
}

// All numbers that a sector can have, at its place and elsewhere.
func TestNumbersOfSectors(t *testing.T) {
	for n := range 65536 {
		s := sector(1, n, 3, filled(4, 3))
		if d := diskOf(1, s); (len(opened(t, d).Records) == 1) != (n == 0) {
			t.Fatal(n)
		}
		if d := diskOf(2, sector(1, 0, 3, nil), s); (len(opened(t, d).Records) == 2) != (n == 1) {
			t.Fatal(n)
		}
	}
	var all [][]byte
	for n := range 4096 {
		all = append(all, sector(7, n, 3, filled(n%113, byte(n))))
	}
	j := opened(t, diskOf(4096, all...))
	if len(j.Records) != 4096 || j.Many != 4096 || j.Synced != 4096 {
		t.Fatal(len(j.Records))
	}
	for n, b := range j.Records {
		if !bytes.Equal(b, filled(n%113, byte(n))) {
			t.Fatal(n)
		}
	}
	for _, at := range []int{0, 1, 255, 256, 257, 4095} {
		for _, n := range []int{at - 1, at + 1, at + 256, at + 4096, at ^ 256, 65535} {
			l := slices.Clone(all)
			l[at] = sector(7, n, 3, nil)
			if j := opened(t, diskOf(4096, l...)); len(j.Records) != at {
				t.Error(at, n, len(j.Records))
			}
		}
	}
}

// One record that fills the greatest disk.
func TestOpenOfGreatestRecord(t *testing.T) {
	var b []byte
	for i := range 4096 * 112 {
		b = append(b, byte(i*i>>5))
	}
	for _, n := range []int{4096 * 112, 4095*112 + 1} {
		l := sectors(1, 0, b[:n])
		if j := opened(t, diskOf(4096, l...)); len(j.Records) != 1 || !bytes.Equal(j.Records[0], b[:n]) {
			t.Error(n, len(j.Records))
		}
		// Without its last sector it is no record.
		if j := opened(t, api.Disk{Sectors: l[:4095], Left: -1}); len(j.Records) != 0 || j.Many != 4095 {
			t.Error(n, len(j.Records))
		}
	}
}

// letters are the good sectors, by generation and kind. Any other letter is a sector that is not good.
var letters = []string{"0123", "abcd", "wxyz"}

var (
	journals  = regexp.MustCompile("^(3|10*2)*(d|ba*c)*(z|xw*y)*")
	oneRecord = regexp.MustCompile("3|10*2|d|ba*c|z|xw*y")
)

// part returns what a sector holds of a record. If the record ends in it, it is not full.
func part(at int, last bool) []byte {
	if last {
		return filled(at+1, byte(at+1))
	}
	return filled(112, byte(at+1))
}

// sectorOf returns the sector that a letter stands for.
func sectorOf(c byte, at int) []byte {
	for g, l := range letters {
		if kind := strings.IndexByte(l, c); kind >= 0 {
			return sector(uint32(g+1), at, byte(kind), part(at, kind >= 2))
		}
	}
	return make([]byte, 128)
}

// described returns the records on a disk whose sectors are some letters.
func described(text string) (l [][]byte) {
	for _, r := range oneRecord.FindAllStringIndex(journals.FindString(text), -1) {
		var b []byte
		for at := r[0]; at < r[1]; at++ {
			b = append(b, part(at, at == r[1]-1)...)
		}
		l = append(l, b)
	}
	return l
}

// All disks of up to five sectors with two generations, and of up to four with three, are compared with what expressions say.
func TestAllSmallDisks(t *testing.T) {
	var all func(text string, disk [][]byte, alphabet string, n int)
	all = func(text string, disk [][]byte, alphabet string, n int) {
		if len(text) > 0 {
			if j := opened(t, diskOf(0, disk...)); !sameJournal(j, api.Journal{Records: described(text), Many: len(text), Synced: len(j.Records)}) {
				t.Fatal(text, j)
			}
		}
		if len(text) == n {
			return
		}
		for i := range alphabet {
			all(text+alphabet[i:i+1], append(slices.Clip(disk), sectorOf(alphabet[i], len(text))), alphabet, n)
		}
	}
	all("", nil, ".0123abcd", 5)
	all("", nil, "."+strings.Join(letters, ""), 4)
}

// Generations are numbers, not texts, and each one is compared with that of the record before it alone.
func TestGenerationsOfRecords(t *testing.T) {
	for _, x := range []struct {
		generations []uint32
		want        int
	}{
		{[]uint32{1, 1, 1, 1}, 4}, {[]uint32{1, 5, 5, 9}, 4}, {[]uint32{9, 5, 5, 9}, 1}, {[]uint32{1, 5, 3, 9}, 2}, {[]uint32{1, 3, 5, 4}, 3},
		{[]uint32{255, 256, 65536, 1 << 24}, 4}, {[]uint32{1 << 24, 65536, 256, 255}, 1}, {[]uint32{1 << 31, math.MaxUint32, math.MaxUint32, 1}, 3},
		{[]uint32{math.MaxUint32, 1}, 1}, {[]uint32{0x01000002, 0x02000001, 0x02000000}, 2}, {[]uint32{0, 1, 1}, 0}, {[]uint32{1, 0, 1}, 1},
	} {
		var l, want [][]byte
		for i, g := range x.generations {
			b := filled(113, byte(i))
			l = append(l, sectors(g, 2*i, b)...)
			want = append(want, b)
		}
		if !holds(t, l, want[:x.want]...) {
			t.Error(x)
		}
	}
	// Both sectors of a record have the same generation, not just one that is not less.
	for _, g := range []uint32{1, 2, 4, 5, math.MaxUint32} {
		if !holds(t, [][]byte{sector(3, 0, 1, filled(112, 1)), sector(g, 1, 2, filled(1, 1))}) {
			t.Error(g)
		}
	}
}
