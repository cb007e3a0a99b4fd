package journal

import (
	"bytes"
	"encoding/binary"
	"hash/crc32"
	"math"
	"reflect"
	"slices"
	"testing"

	"kinesphere/api"
	"kinesphere/disk"
)

// filled returns n bytes that are all c.
func filled(n int, c byte) []byte { return bytes.Repeat([]byte{c}, n) }

// sector returns a sector as the chapter describes it, good or not. Its checksum is that of Go's library.
func sector(g uint32, number int, kind byte, data []byte) []byte {
	s := make([]byte, 128)
	binary.BigEndian.PutUint32(s, g)
	binary.BigEndian.PutUint16(s[8:], uint16(number))
	s[10], s[11] = kind, byte(len(data))
	copy(s[12:124], data)
	binary.BigEndian.PutUint32(s[124:], g)
	return sealed(s)
}

// sealed gives a sector the checksum of its bytes.
func sealed(s []byte) []byte {
	binary.BigEndian.PutUint32(s[4:], crc32.ChecksumIEEE(s[8:124]))
	return s
}

// sectors returns the sectors of a record that begins at a number.
func sectors(g uint32, number int, b []byte) (l [][]byte) {
	n := max(1, (len(b)+111)/112)
	for i := range n {
		var kind byte
		if i == 0 {
			kind++
		}
		if i == n-1 {
			kind += 2
		}
		l = append(l, sector(g, number+i, kind, b[112*i:min(len(b), 112*i+112)]))
	}
	return l
}

// diskOf returns a disk of n sectors that begins with some.
func diskOf(n int, l ...[]byte) api.Disk {
	for len(l) < n {
		l = append(l, make([]byte, 128))
	}
	return api.Disk{Sectors: l, Left: -1}
}

// lengths returns records of some lengths: the first one is full of 1, the next one of 2, and so on.
func lengths(list ...int) (l [][]byte) {
	for i, n := range list {
		l = append(l, filled(n, byte(i+1)))
	}
	return l
}

func cloned(d api.Disk) api.Disk {
	d.Sectors, d.Pending = slices.Clone(d.Sectors), slices.Clone(d.Pending)
	for i, s := range d.Sectors {
		d.Sectors[i] = slices.Clone(s)
	}
	for i, w := range d.Pending {
		d.Pending[i].Data = slices.Clone(w.Data)
	}
	return d
}

func copied(j api.Journal) api.Journal {
	j.Records = slices.Clone(j.Records)
	for i, b := range j.Records {
		j.Records[i] = slices.Clone(b)
	}
	return j
}

func sameDisk(a, b api.Disk) bool {
	return a.Left == b.Left && a.Stopped == b.Stopped && slices.EqualFunc(a.Sectors, b.Sectors, bytes.Equal) &&
		slices.EqualFunc(a.Pending, b.Pending, func(x, y api.Write) bool { return x.At == y.At && bytes.Equal(x.Data, y.Data) })
}

func sameJournal(a, b api.Journal) bool {
	return a.Many == b.Many && a.Synced == b.Synced && slices.EqualFunc(a.Records, b.Records, bytes.Equal)
}

func isZero(j api.Journal) bool { return sameJournal(j, api.Journal{}) }

func isZeroDisk(d api.Disk) bool { return sameDisk(d, api.Disk{}) }

// appended returns j with further records.
func appended(t *testing.T, j api.Journal, records ...[]byte) api.Journal {
	t.Helper()
	for _, b := range records {
		x, e := Append(j, b)
		if e != api.OK {
			t.Fatal(len(b), e)
		}
		j = x
	}
	return j
}

// opened returns the journal on a disk.
func opened(t *testing.T, d api.Disk) api.Journal {
	t.Helper()
	j, e := Open(d)
	if e != api.OK || Check(j) != api.OK {
		t.Fatal(e)
	}
	return j
}

// synced returns a disk after a sync of a journal to it.
func synced(t *testing.T, j api.Journal, d api.Disk) api.Disk {
	t.Helper()
	x, d, e := Sync(j, d)
	if e != api.OK || x.Synced != len(j.Records) {
		t.Fatal(x.Synced, e)
	}
	return d
}

// wrongJournals are journals that are just not valid, for each of the reasons.
func wrongJournals() []api.Journal {
	return []api.Journal{
		{}, {Many: 4097}, {Many: -1}, {Many: math.MinInt}, {Many: math.MaxInt}, {Many: 1 << 32},
		{Many: 4097, Records: lengths(5)}, {Records: lengths(0)}, {Many: -1, Records: lengths(0), Synced: 1},
		{Many: 3, Synced: 1}, {Many: 3, Synced: -1}, {Many: 3, Synced: math.MaxInt}, {Many: 3, Synced: math.MinInt},
		{Many: 3, Records: lengths(1, 1), Synced: 3}, {Many: 3, Records: lengths(1, 1), Synced: -1},
		{Many: 1, Records: lengths(113)}, {Many: 1, Records: lengths(0, 0)}, {Many: 1, Records: lengths(0, 1)},
		{Many: 2, Records: lengths(225)}, {Many: 2, Records: lengths(112, 113)}, {Many: 2, Records: lengths(113, 0)},
		{Many: 3, Records: lengths(1, 112, 113)}, {Many: 3, Records: lengths(0, 0, 0, 0), Synced: 4},
		{Many: 4095, Records: make([][]byte, 4096)}, {Many: 4096, Records: make([][]byte, 4097)}, {Many: 4096, Records: lengths(4096*112 + 1)},
	}
}

// P5.2

// What is free is told by Room, and exactly so much can be appended.
func TestRoom(t *testing.T) {
	for i, x := range []struct {
		j    api.Journal
		free int
	}{
		{api.Journal{Many: 1}, 1},
		{api.Journal{Many: 2}, 2},
		{api.Journal{Many: 4096}, 4096},
		{api.Journal{Many: 1, Records: lengths(0)}, 0},
		{api.Journal{Many: 1, Records: lengths(112)}, 0},
		{api.Journal{Many: 1, Records: lengths(112), Synced: 1}, 0},
		{api.Journal{Many: 2, Records: lengths(0)}, 1},
		{api.Journal{Many: 2, Records: lengths(1)}, 1},
		{api.Journal{Many: 2, Records: lengths(111), Synced: 1}, 1},
		{api.Journal{Many: 2, Records: lengths(112)}, 1},
		{api.Journal{Many: 2, Records: lengths(113)}, 0},
		{api.Journal{Many: 2, Records: lengths(224)}, 0},
		{api.Journal{Many: 9, Records: lengths(223)}, 7},
		{api.Journal{Many: 9, Records: lengths(224)}, 7},
		{api.Journal{Many: 9, Records: lengths(225)}, 6},
		{api.Journal{Many: 9, Records: lengths(336, 0, 113), Synced: 1}, 3},
		{api.Journal{Many: 9, Records: lengths(337, 0, 112, 0, 0, 1)}, 0},
		{api.Journal{Many: 4096, Records: lengths(4095 * 112)}, 1},
		{api.Journal{Many: 4096, Records: lengths(4096 * 112), Synced: 1}, 0},
		{api.Journal{Many: 4096, Records: make([][]byte, 4095), Synced: 4095}, 1},
		{api.Journal{Many: 4096, Records: make([][]byte, 4096), Synced: 4096}, 0},
	} {
		if e := Check(x.j); e != api.OK {
			t.Error(i, "Check", e)
		}
		n := Room(x.j)
		if n != 112*x.free {
			t.Error(i, "Room", n)
		}
		if y, e := Append(x.j, make([]byte, n+1)); e != api.ErrLimit || !isZero(y) {
			t.Error(i, "too much", len(y.Records), e)
		}
		y, e := Append(x.j, filled(n, 77))
		if x.free == 0 {
			if e != api.ErrLimit || !isZero(y) {
				t.Error(i, "full", e)
			}
			continue
		}
		want := api.Journal{Records: append(slices.Clip(x.j.Records), filled(n, 77)), Many: x.j.Many, Synced: x.j.Synced}
		if e != api.OK || !sameJournal(y, want) || Check(y) != api.OK || Room(y) != 0 {
			t.Error(i, "Append", len(y.Records), e)
		}
	}
}

func TestWrongJournals(t *testing.T) {
	for i, j := range wrongJournals() {
		if e := Check(j); e != api.ErrArg {
			t.Error(i, "Check", e)
		}
		if n := Room(j); n != 0 {
			t.Error(i, "Room", n)
		}
		// That the journal is wrong is said also if the record does not fit.
		for _, n := range []int{0, 1, 112, 1000000} {
			if x, e := Append(j, make([]byte, n)); e != api.ErrArg || !isZero(x) {
				t.Error(i, n, "Append", e)
			}
		}
	}
}

// Records of each length occupy as many sectors as they need.
func TestOccupiedSectors(t *testing.T) {
	j := api.Journal{Many: 4096}
	free := 4096
	for n := range 600 {
		x, e := Append(j, make([]byte, n))
		if e != api.OK {
			t.Fatal(n, e)
		}
		need := 1
		for 112*need < n {
			need++
		}
		if Room(x) != 112*(free-need) || len(x.Records) != len(j.Records)+1 || len(x.Records[len(j.Records)]) != n {
			t.Fatal(n, Room(x))
		}
		if full, e := Append(api.Journal{Many: need}, make([]byte, n)); e != api.OK || Room(full) != 0 {
			t.Fatal(n, e)
		}
		if need > 1 {
			if _, e := Append(api.Journal{Many: need - 1}, make([]byte, n)); e != api.ErrLimit {
				t.Fatal(n, e)
			}
		}
		if n%3 == 0 {
			j, free = x, free-need
		}
	}
}

// A record without bytes can be nil or not.
func TestRecordsWithoutBytes(t *testing.T) {
	j := api.Journal{Many: 2}
	j = appended(t, j, nil, []byte{})
	if len(j.Records) != 2 || len(j.Records[0]) > 0 || len(j.Records[1]) > 0 || Room(j) != 0 {
		t.Error(j)
	}
	for _, b := range [][]byte{nil, {}} {
		if x, e := Append(j, b); e != api.ErrLimit || !isZero(x) {
			t.Error(x, e)
		}
	}
	d := synced(t, j, diskOf(2))
	for _, records := range [][][]byte{{nil, nil}, {{}, {}}, {nil, {}}} {
		if x, y, e := Sync(api.Journal{Records: records, Many: 2, Synced: 2}, d); e != api.OK || x.Synced != 2 || !sameDisk(y, d) {
			t.Error(e)
		}
	}
}

// R2: what is called does not change its arguments, nor what was returned before; nor does it matter what lies behind a list.
func TestArgumentsAndResultsAreKept(t *testing.T) {
	d := synced(t, appended(t, opened(t, diskOf(9)), lengths(5, 200)...), diskOf(9))
	j := appended(t, opened(t, d), lengths(113, 0)...)
	j.Records = append(make([][]byte, 0, 50), j.Records...)
	stopping, e := disk.Stop(d, 2)
	if e != api.OK {
		t.Fatal(e)
	}
	oldDisk, oldStopping, old := cloned(d), cloned(stopping), copied(j)
	for range 2 {
		a, b := appended(t, j, filled(3, 7)), appended(t, j, filled(3, 8))
		if a.Records[4][0] != 7 || b.Records[4][0] != 8 {
			t.Error("two records that are appended to one journal are the same")
		}
		x, y, e := Sync(a, d)
		_, z, f := Sync(b, stopping)
		if e != api.OK || f != api.ErrDisk || x.Synced != 5 {
			t.Fatal(e, f)
		}
		before := cloned(y)
		synced(t, appended(t, x, filled(4, 9)), y)
		synced(t, appended(t, opened(t, disk.Restart(z)), filled(4, 9)), disk.Restart(z))
		Check(j)
		Room(j)
		Open(d)
		if !reflect.DeepEqual(d, oldDisk) || !reflect.DeepEqual(stopping, oldStopping) || !sameJournal(j, old) || !sameDisk(y, before) {
			t.Fatal("an argument or a result has changed")
		}
	}
}

// A caller may use the bytes that it has appended for other things.
func TestAppendedBytesAreCopied(t *testing.T) {
	b := filled(3, 5)
	j := appended(t, api.Journal{Many: 1}, b)
	b[0] = 6
	if j.Records[0][0] != 5 {
		t.Error(j)
	}
}
