package journal

import (
	"slices"
	"testing"

	"kinesphere/api"
	"kinesphere/disk"
)

// P5.4

// kept returns which records of a sync remain if only so many sectors are written, and how many sectors all need.
func kept(records [][]byte, left int) (n, need int) {
	for _, b := range records {
		need += max(1, (len(b)+111)/112)
		if need <= left {
			n++
		}
	}
	return n, need
}

// attempt appends records to those that a disk holds, and syncs them to the disk, which stops after left writes. It returns the disk
// after a restart, and the records that are to remain. It is not ok if there is no room.
func attempt(t *testing.T, d api.Disk, old, records [][]byte, left int) (x api.Disk, remain [][]byte, ok bool) {
	t.Helper()
	j := opened(t, d)
	for _, b := range records {
		var e api.Errno
		if j, e = Append(j, b); e != api.OK {
			return d, old, false
		}
	}
	n, need := kept(records, left)
	d.Left = left
	y, d, e := Sync(j, d)
	if stops := left < need; stops != (e == api.ErrDisk) || stops != d.Stopped || stops != isZero(y) || !stops && (e != api.OK || y.Synced != len(j.Records) || d.Left != left-need) {
		t.Fatal(left, need, e, d.Stopped, y.Synced)
	}
	d, remain = disk.Restart(d), slices.Concat(old, records[:n])
	if !sameJournal(opened(t, d), api.Journal{Records: remain, Many: len(d.Sectors), Synced: len(remain)}) {
		t.Fatal(left, need, len(opened(t, d).Records), len(remain))
	}
	return d, remain, true
}

// All sequences of four syncs of a few lists of records, each of which may stop after any number of writes.
func TestAllCrashes(t *testing.T) {
	lists := [][]int{{0}, {5, 112}, {300}, {1, 113, 0}}
	var all func(d api.Disk, old [][]byte, depth int)
	all = func(d api.Disk, old [][]byte, depth int) {
		if depth == 4 {
			return
		}
		for i, list := range lists {
			var records [][]byte
			for k, n := range list {
				records = append(records, filled(n, byte(64*depth+8*i+k+1)))
			}
			_, need := kept(records, 0)
			for left := range need + 1 {
				if x, remain, ok := attempt(t, d, old, records, left); ok {
					all(x, remain, depth+1)
				}
			}
		}
	}
	for _, n := range []int{3, 6, 12} {
		all(diskOf(n), nil, 0)
	}
}

// Long sequences of syncs, most of which stop, on a disk that is as full as it gets in the end.
func TestLongSequences(t *testing.T) {
	for seed := range 60 {
		x := uint32(seed)*2654435761 + 1
		next := func(n int) int {
			x = x*1664525 + 1013904223
			return int(x>>16) % n
		}
		d := diskOf(40)
		var old [][]byte
		for i := range 150 {
			var records [][]byte
			for range next(4) {
				records = append(records, filled(next(500), byte(i)))
			}
			d, old, _ = attempt(t, d, old, records, next(12))
		}
		if Room(opened(t, d)) > 20*112 {
			t.Error(seed, len(old))
		}
	}
}

// What an aborted sync has left behind is not read, also if it would go on after the records that are written next.
func TestWhatIsLeftBehind(t *testing.T) {
	d, _, _ := attempt(t, diskOf(9), nil, lengths(336, 5), 2)
	for _, records := range [][][]byte{lengths(112), lengths(0), lengths(112, 112), lengths(224)} {
		d, old, _ := attempt(t, d, nil, records, 9)
		attempt(t, d, old, records, 9)
	}
	// Whole records of a sync that are no longer reached, since a byte before them was changed, stay out of reach.
	d, _, _ = attempt(t, diskOf(9), nil, lengths(5, 6, 7, 8), 9)
	d = cloned(d)
	d.Sectors[1][20]++
	d, old, _ := attempt(t, d, lengths(5), [][]byte{filled(9, 9)}, 9)
	d, old, _ = attempt(t, d, old, [][]byte{filled(200, 10)}, 1)
	attempt(t, d, old, [][]byte{filled(200, 11)}, 9)
}

// One byte that is changed: exactly the records before its sector remain; a sector that belongs to no record may change at will.
func TestChangedBytes(t *testing.T) {
	d := diskOf(14)
	var old [][]byte
	var owner []int
	for i, list := range [][]int{{3, 200}, {0}, {112, 113}, {400}} {
		var records [][]byte
		for k, n := range list {
			records = append(records, filled(n, byte(8*i+k)))
		}
		for i, b := range records {
			_, need := kept([][]byte{b}, 0)
			owner = append(owner, slices.Repeat([]int{len(old) + i}, need)...)
		}
		d, old, _ = attempt(t, d, old, records, 9)
	}
	for at := range d.Sectors {
		for i := range 128 {
			for _, change := range []byte{1, 2, 4, 8, 16, 32, 64, 128, 3, 255, d.Sectors[at][i]} {
				if change == 0 {
					continue
				}
				x := cloned(d)
				x.Sectors[at][i] ^= change
				remain := old
				if at < len(owner) {
					remain = old[:owner[at]]
				}
				if !sameJournal(opened(t, x), api.Journal{Records: remain, Many: 14, Synced: len(remain)}) {
					t.Fatal(at, i, change)
				}
				if j := opened(t, d); at < len(owner) && !refused(j, x, api.ErrLog) {
					t.Fatal(at, i, change, "Sync")
				}
			}
		}
	}
}

// A crash after each number of writes of a sync of many records to a disk that a longer sync has used before.
func TestCrashAnywhere(t *testing.T) {
	first, _, _ := attempt(t, diskOf(80), nil, lengths(8800, 10), 78)
	var records [][]byte
	for i := range 30 {
		records = append(records, filled(i*i%300, byte(i+100)))
	}
	_, need := kept(records, 0)
	for left := range need + 1 {
		d, old, ok := attempt(t, first, nil, records, left)
		if !ok {
			t.Fatal("no room")
		}
		n, _ := kept(records, left)
		if d, old, ok = attempt(t, d, old, records[n:], need); !ok || len(old) != 30 {
			t.Fatal(left, len(old))
		}
		if Room(opened(t, d)) != 112*(80-need) {
			t.Error(left)
		}
	}
}
