package journal

import (
	"bytes"
	"encoding/binary"
	"math"
	"slices"
	"testing"

	"kinesphere/api"
	"kinesphere/disk"
)

// P5.3

// Records are written after the synced ones, in their form, and nothing else is.
func TestSyncWrites(t *testing.T) {
	old := lengths(0, 112, 300)
	for i, list := range [][]int{{0}, {1}, {111}, {112}, {113}, {224}, {225}, {0, 0, 0}, {112, 224, 336}, {113, 0, 225, 112}, {1344}, {1300, 1}} {
		d := diskOf(20, slices.Concat(sectors(3, 0, old[0]), sectors(3, 1, old[1]), sectors(7, 2, old[2]))...)
		for at := 5; at < 20; at++ {
			d.Sectors[at] = filled(128, byte(at))
			copy(d.Sectors[at], []byte{1, 2, 3, 4})
			copy(d.Sectors[at][124:], []byte{1, 2, 3, 2})
		}
		j := appended(t, opened(t, d), lengths(list...)...)
		want := cloned(d)
		at := 5
		for _, b := range lengths(list...) {
			for _, s := range sectors(0x01020305, at, b) {
				want.Sectors[at] = s
				at++
			}
		}
		for _, left := range []int{-1, at - 5, at - 4, 65536} {
			d.Left, want.Left = left, left
			if left >= 0 {
				want.Left = left - (at - 5)
			}
			x, y, e := Sync(j, d)
			if e != api.OK || !sameDisk(y, want) || !sameJournal(x, api.Journal{Records: j.Records, Many: 20, Synced: 3 + len(list)}) {
				t.Error(i, left, x.Synced, y.Left, e)
			}
		}
	}
}

// Some of the records that are not synced may have been appended long ago; a journal need not come from Open.
func TestSyncOfPartOfAJournal(t *testing.T) {
	records := lengths(5, 200, 0, 113, 112)
	for n := range len(records) + 1 {
		var l [][]byte
		for _, b := range records[:n] {
			l = append(l, sectors(1, len(l), b)...)
		}
		x, d, e := Sync(api.Journal{Records: records, Many: 9, Synced: n}, diskOf(9, l...))
		if e != api.OK || !sameJournal(x, api.Journal{Records: records, Many: 9, Synced: 5}) {
			t.Fatal(n, x.Synced, e)
		}
		at := 0
		for i, b := range records {
			g := uint32(1)
			if i >= n && n > 0 {
				g = 2
			}
			for _, s := range sectors(g, at, b) {
				if !bytes.Equal(d.Sectors[at], s) {
					t.Error(n, at, d.Sectors[at])
				}
				at++
			}
		}
	}
}

// The greatest generation of all sectors counts, whether they are good or not, and in both places.
func TestGenerationOfSync(t *testing.T) {
	for _, x := range []struct {
		at   int
		g    uint32
		want uint32
	}{
		{0, 0, 3}, {0, 2, 3}, {0, 3, 4}, {124, 3, 4}, {0, 255, 256}, {124, 256, 257}, {0, 65535, 65536}, {124, 0x00ffffff, 0x01000000},
		{0, 0x7fffffff, 0x80000000}, {124, 0x80000000, 0x80000001}, {0, math.MaxUint32 - 1, math.MaxUint32}, {124, math.MaxUint32 - 1, math.MaxUint32},
		{0, math.MaxUint32, 0}, {124, math.MaxUint32, 0}, {1, math.MaxUint32, 0x01000000}, {4, math.MaxUint32, 3}, {120, math.MaxUint32, 3},
	} {
		for _, at := range []int{1, 2, 5} {
			d := diskOf(6, sectors(2, 0, filled(4, 1))...)
			binary.BigEndian.PutUint32(d.Sectors[at][x.at:], x.g)
			j := opened(t, d)
			for _, records := range [][][]byte{nil, lengths(113)} {
				j := appended(t, j, records...)
				y, after, e := Sync(j, d)
				if x.want == 0 {
					// This is said also if there is nothing to be written.
					if e != api.ErrLog || !isZero(y) || !isZeroDisk(after) {
						t.Error(x, at, e)
					}
					continue
				}
				want := cloned(d)
				for i, b := range records {
					copy(want.Sectors[1+i:], sectors(x.want, 1+i, b))
				}
				if e != api.OK || y.Synced != len(j.Records) || !sameDisk(after, want) {
					t.Error(x, at, e)
				}
			}
		}
	}
	d := diskOf(3, sectors(math.MaxUint32-1, 0, nil)...)
	d = synced(t, appended(t, opened(t, d), nil), d)
	if _, _, e := Sync(appended(t, opened(t, d), nil), d); e != api.ErrLog {
		t.Error(e)
	}
}

// If all records are synced, nothing is written, and the disk does not stop.
func TestSyncOfNothing(t *testing.T) {
	for _, records := range [][][]byte{nil, lengths(0), lengths(3, 300, 112)} {
		for _, left := range []int{-1, 0, 1, 65536} {
			d := diskOf(6)
			d = synced(t, appended(t, opened(t, d), records...), d)
			d.Left = left
			j := opened(t, d)
			if x, y, e := Sync(j, d); e != api.OK || !sameJournal(x, j) || !sameDisk(y, d) {
				t.Error(len(records), left, e)
			}
		}
	}
}

// refused reports whether Sync returns an error, and nothing with it.
func refused(j api.Journal, d api.Disk, want api.Errno) bool {
	x, y, e := Sync(j, d)
	return e == want && isZero(x) && isZeroDisk(y)
}

// What is wrong is told in the order of the chapter.
func TestSyncOfWrongArguments(t *testing.T) {
	good := api.Journal{Many: 3, Records: lengths(1)}
	for i, j := range wrongJournals() {
		if !refused(j, diskOf(3), api.ErrArg) {
			t.Error(i)
		}
		// The journal is looked at before the disk is.
		for k, x := range wrongDisks() {
			if !refused(j, x.d, api.ErrArg) {
				t.Error(i, k)
			}
		}
	}
	for i, x := range wrongDisks() {
		for _, many := range []int{1, 2, 3, 4, 4096} {
			if !refused(api.Journal{Many: many, Records: lengths(1)}, x.d, x.e) || !refused(api.Journal{Many: many, Records: lengths(1), Synced: 1}, x.d, x.e) {
				t.Error(i, many)
			}
		}
	}
	pending, e := disk.Write(diskOf(3), 2, nil)
	if e != api.OK {
		t.Fatal(e)
	}
	other, highest := good, diskOf(3, filled(128, 255))
	other.Synced = 1
	for _, n := range []int{1, 2, 4, 4096} {
		if !refused(good, diskOf(n), api.ErrArg) || !refused(other, diskOf(n), api.ErrArg) {
			t.Error(n)
		}
	}
	for i, x := range []struct {
		j    api.Journal
		d    api.Disk
		want api.Errno
	}{
		{good, pending, api.ErrArg},
		{other, pending, api.ErrArg},
		{other, diskOf(3), api.ErrLog},
		{good, highest, api.ErrLog},
		{other, highest, api.ErrLog},
		{api.Journal{Many: 3}, highest, api.ErrLog},
		{api.Journal{Many: 4}, highest, api.ErrArg},
	} {
		if !refused(x.j, x.d, x.want) {
			t.Error(i)
		}
	}
}

// The records on the disk are the synced ones: no more, no fewer, and no others.
func TestSyncOfAnotherJournal(t *testing.T) {
	d := synced(t, appended(t, opened(t, diskOf(9)), lengths(3, 0, 200)...), diskOf(9))
	for i, x := range []struct {
		records [][]byte
		synced  int
		want    api.Errno
	}{
		{lengths(3, 0, 200), 3, api.OK},
		{lengths(3, 0, 200, 1), 3, api.OK},
		{lengths(3, 0, 200), 2, api.ErrLog},
		{lengths(3, 0, 200), 0, api.ErrLog},
		{lengths(3, 0, 200, 1), 4, api.ErrLog},
		{nil, 0, api.ErrLog},
		{lengths(3, 0), 2, api.ErrLog},
		{lengths(3, 0, 0), 3, api.ErrLog},
		{lengths(3, 0, 199), 3, api.ErrLog},
		{lengths(3, 0, 201), 3, api.ErrLog},
		{lengths(2, 0, 200), 3, api.ErrLog},
		{lengths(3, 1, 200), 3, api.ErrLog},
		{[][]byte{filled(3, 1), nil, filled(200, 4)}, 3, api.ErrLog},
		{[][]byte{filled(3, 2), nil, filled(200, 3)}, 3, api.ErrLog},
		{[][]byte{nil, filled(3, 1), filled(200, 3)}, 3, api.ErrLog},
		{[][]byte{filled(3, 1), filled(200, 3), nil}, 3, api.ErrLog},
		{[][]byte{filled(3, 1), nil, append(filled(199, 3), 4)}, 3, api.ErrLog},
		{[][]byte{filled(3, 1), filled(200, 3)}, 2, api.ErrLog},
	} {
		j := api.Journal{Records: x.records, Many: 9, Synced: x.synced}
		if x.want != api.OK {
			if !refused(j, d, x.want) {
				t.Error(i)
			}
			continue
		}
		if _, _, e := Sync(j, d); e != api.OK {
			t.Error(i, e)
		}
	}
}

// A disk that stops during the sync is returned with the error. It is as disk.Sync leaves it.
func TestSyncStops(t *testing.T) {
	for left := range 6 {
		d := diskOf(9, sectors(4, 0, filled(113, 1))...)
		for at := 2; at < 9; at++ {
			d.Sectors[at] = filled(128, 3)
		}
		j := appended(t, opened(t, d), lengths(0, 400, 7)...)
		d.Left = left
		want := cloned(d)
		var l [][]byte
		for _, b := range lengths(0, 400, 7) {
			l = append(l, sectors(0x03030304, 2+len(l), b)...)
		}
		for i, s := range l[:left] {
			want.Sectors[2+i] = s
		}
		copy(want.Sectors[2+left][:64], l[left])
		want.Left, want.Stopped = 0, true
		x, y, e := Sync(j, d)
		if e != api.ErrDisk || !isZero(x) || !sameDisk(y, want) {
			t.Error(left, e, y.Left, y.Stopped)
		}
	}
}

// The greatest disk with the greatest number of records, and with the greatest record.
func TestGreatestDisk(t *testing.T) {
	for _, records := range [][][]byte{make([][]byte, 4096), lengths(4096 * 112), lengths(300*112, 3000*112+1, 795*112)} {
		j := api.Journal{Records: records, Many: 4096}
		d := synced(t, j, diskOf(4096))
		at := 0
		for _, b := range records {
			for _, s := range sectors(1, at, b) {
				if !bytes.Equal(d.Sectors[at], s) {
					t.Fatal(len(records), at)
				}
				at++
			}
		}
		if !sameJournal(opened(t, d), api.Journal{Records: records, Many: 4096, Synced: len(records)}) {
			t.Error(len(records))
		}
		stopping := diskOf(4096)
		stopping.Left = 4095
		_, y, e := Sync(j, stopping)
		if e != api.ErrDisk || !y.Stopped || !sameJournal(opened(t, disk.Restart(y)), api.Journal{Records: records[:len(records)-1], Many: 4096, Synced: len(records) - 1}) {
			t.Error(len(records), e)
		}
	}
}
