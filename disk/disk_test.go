package disk

import (
	"bytes"
	"math"
	"reflect"
	"slices"
	"testing"

	"kinesphere/api"
)

// filled returns n bytes that are all c.
func filled(n int, c byte) []byte { return bytes.Repeat([]byte{c}, n) }

// sectors returns n sectors: the first one is full of 1, the next one of 2, and so on.
func sectors(n int) (l [][]byte) {
	for i := range n {
		l = append(l, filled(128, byte(i+1)))
	}
	return l
}

// writes returns n writes of a sector.
func writes(n, at int) []api.Write {
	return slices.Repeat([]api.Write{{At: at, Data: filled(128, 9)}}, n)
}

// cloned returns a disk that shares no memory with d.
func cloned(d api.Disk) api.Disk {
	d.Sectors, d.Pending = slices.Clone(d.Sectors), slices.Clone(d.Pending)
	for i, s := range d.Sectors {
		d.Sectors[i] = slices.Clone(s)
	}
	for i, w := range d.Pending {
		d.Pending[i].Data = slices.Clone(w.Data)
	}
	return d
}

// same reports whether disks are equal: nil and empty lists are.
func same(a, b api.Disk) bool {
	return a.Left == b.Left && a.Stopped == b.Stopped && slices.EqualFunc(a.Sectors, b.Sectors, bytes.Equal) &&
		slices.EqualFunc(a.Pending, b.Pending, func(x, y api.Write) bool { return x.At == y.At && bytes.Equal(x.Data, y.Data) })
}

func isZero(d api.Disk) bool { return same(d, api.Disk{}) }

// fresh returns a new disk.
func fresh(t *testing.T, n int) api.Disk {
	t.Helper()
	d, e := New(n)
	if e != api.OK {
		t.Fatal(n, e)
	}
	return d
}

// wrote returns d after a write of a sector full of c.
func wrote(t *testing.T, d api.Disk, at int, c byte) api.Disk {
	t.Helper()
	x, e := Write(d, at, filled(128, c))
	if e != api.OK {
		t.Fatal(at, e)
	}
	return x
}

// stopping returns d, which performs so many writes.
func stopping(t *testing.T, d api.Disk, left int) api.Disk {
	t.Helper()
	x, e := Stop(d, left)
	if e != api.OK {
		t.Fatal(left, e)
	}
	return x
}

// synced returns d after a sync.
func synced(t *testing.T, d api.Disk) api.Disk {
	t.Helper()
	x, e := Sync(d)
	if e != api.OK {
		t.Fatal(e)
	}
	return x
}

// validDisks are disks at the edges of what is valid.
func validDisks() []api.Disk {
	return []api.Disk{
		{Sectors: sectors(1), Left: -1},
		{Sectors: sectors(1), Left: 0},
		{Sectors: sectors(1), Left: 65536},
		{Sectors: sectors(1), Left: 65535, Stopped: true},
		{Sectors: sectors(1), Left: -1, Stopped: true, Pending: writes(1, 0)},
		{Sectors: sectors(2), Left: 1, Pending: writes(3, 1)},
		{Sectors: sectors(2), Left: -1, Pending: []api.Write{}},
		{Sectors: sectors(4096), Left: -1},
		{Sectors: sectors(4096), Left: 4096, Pending: writes(4096, 4095)},
	}
}

// invalidDisks are disks that are just not valid, for each of the reasons, and together with others.
func invalidDisks() (l []api.Disk) {
	l = []api.Disk{
		{}, {Left: -1}, {Left: -1, Stopped: true}, {Sectors: [][]byte{}, Left: -1}, {Pending: writes(1, 0), Left: -1},
		{Sectors: sectors(4097), Left: -1}, {Sectors: sectors(4097), Left: -1, Stopped: true},
		{Sectors: sectors(1), Pending: writes(4097, 0), Left: -1},
	}
	for _, n := range []int{0, 1, 64, 127, 129, 256} {
		for at := range 3 {
			d := api.Disk{Sectors: sectors(3), Left: -1}
			d.Sectors[at] = filled(n, 7)
			w := api.Disk{Sectors: sectors(3), Pending: writes(3, 2), Left: 5}
			w.Pending[at].Data = filled(n, 7)
			l = append(l, d, w)
		}
	}
	for _, at := range []int{-1, 3, 4, 4096, math.MinInt, math.MaxInt} {
		for i := range 3 {
			d := api.Disk{Sectors: sectors(3), Pending: writes(3, 2), Left: -1}
			d.Pending[i].At = at
			l = append(l, d)
		}
	}
	for _, left := range []int{-2, -65536, 65537, math.MinInt, math.MaxInt} {
		l = append(l, api.Disk{Sectors: sectors(1), Left: left}, api.Disk{Sectors: sectors(1), Left: left, Stopped: true})
	}
	return l
}

// P4.1

func TestNew(t *testing.T) {
	for _, n := range []int{1, 2, 3, 100, 4095, 4096} {
		d, e := New(n)
		want := api.Disk{Sectors: slices.Repeat([][]byte{make([]byte, 128)}, n), Left: -1}
		if e != api.OK || !same(d, want) || Check(d) != api.OK {
			t.Error(n, len(d.Sectors), d.Left, d.Stopped, e)
		}
	}
	for _, n := range []int{0, -1, -4096, 4097, 65536, 1 << 40, math.MinInt, math.MaxInt} {
		if d, e := New(n); e != api.ErrArg || !isZero(d) {
			t.Error(n, len(d.Sectors), d.Left, d.Stopped, e)
		}
	}
}

func TestCheck(t *testing.T) {
	for i, d := range validDisks() {
		if e := Check(d); e != api.OK {
			t.Error(i, e)
		}
	}
	for i, d := range invalidDisks() {
		if e := Check(d); e != api.ErrDisk {
			t.Error(i, e)
		}
	}
}

// That a disk is not valid is said before anything is said about the other arguments.
func TestInvalidDisks(t *testing.T) {
	for i, d := range invalidDisks() {
		old := cloned(d)
		for _, n := range []int{-1, 0, 1, 5000, 70000} {
			if b, e := Read(d, n); e != api.ErrDisk || len(b) > 0 {
				t.Error(i, n, "Read", len(b), e)
			}
			for _, b := range [][]byte{nil, filled(128, 3), filled(129, 3)} {
				if x, e := Write(d, n, b); e != api.ErrDisk || !isZero(x) {
					t.Error(i, n, len(b), "Write", e)
				}
			}
			if x, e := Stop(d, n); e != api.ErrDisk || !isZero(x) {
				t.Error(i, n, "Stop", e)
			}
		}
		if x, e := Sync(d); e != api.ErrDisk || !isZero(x) {
			t.Error(i, "Sync", e)
		}
		if !same(d, old) {
			t.Error(i, "changed")
		}
	}
}

func TestRestart(t *testing.T) {
	for i, d := range append(validDisks(), invalidDisks()...) {
		old := cloned(d)
		x := Restart(d)
		if !same(x, api.Disk{Sectors: old.Sectors, Left: -1}) || !same(d, old) {
			t.Error(i, len(x.Sectors), len(x.Pending), x.Left, x.Stopped)
		}
		if Check(d) == api.OK && Check(x) != api.OK {
			t.Error(i, "not valid")
		}
	}
	if x := Restart(api.Disk{}); !same(x, api.Disk{Left: -1}) {
		t.Error("the zero disk", x)
	}
}

// P4.2

func TestReadOfWhatIsPending(t *testing.T) {
	d := api.Disk{Sectors: sectors(3), Left: -1}
	for _, w := range []api.Write{{At: 0, Data: filled(128, 10)}, {At: 2, Data: filled(128, 11)}, {At: 0, Data: filled(128, 12)}, {At: 2, Data: filled(128, 13)}, {At: 0, Data: filled(128, 14)}} {
		d.Pending = append(d.Pending, w)
	}
	for n, want := range [][3]byte{{1, 2, 3}, {10, 2, 3}, {10, 2, 11}, {12, 2, 11}, {12, 2, 13}, {14, 2, 13}} {
		x := d
		x.Pending = d.Pending[:n]
		for at, c := range want {
			if b, e := Read(x, at); e != api.OK || !bytes.Equal(b, filled(128, c)) {
				t.Error(n, at, b, e)
			}
		}
	}
}

// A disk that will stop at the next write can still be read and written.
func TestReadWhateverIsLeft(t *testing.T) {
	for _, left := range []int{-1, 0, 1, 65536} {
		d := api.Disk{Sectors: sectors(2), Left: left}
		d = wrote(t, d, 1, 77)
		if d.Left != left {
			t.Error(left, d.Left)
		}
		for at, c := range []byte{1, 77} {
			if b, e := Read(d, at); e != api.OK || !bytes.Equal(b, filled(128, c)) {
				t.Error(left, at, b, e)
			}
		}
	}
}

func TestWriteOfAllLengths(t *testing.T) {
	for n := range 129 {
		d := api.Disk{Sectors: sectors(3), Pending: writes(2, 1), Left: 5}
		b := filled(n, 200)
		x, e := Write(d, 1, b)
		want := append(writes(2, 1), api.Write{At: 1, Data: slices.Concat(filled(n, 200), make([]byte, 128-n))})
		if e != api.OK || !same(x, api.Disk{Sectors: sectors(3), Pending: want, Left: 5}) || Check(x) != api.OK {
			t.Fatal(n, x, e)
		}
		if got, e := Read(x, 1); e != api.OK || !bytes.Equal(got, want[2].Data) {
			t.Fatal(n, got, e)
		}
	}
	for _, n := range []int{129, 130, 256, 4096, 1 << 20} {
		d := api.Disk{Sectors: sectors(3), Left: 5}
		if x, e := Write(d, 1, make([]byte, n)); e != api.ErrArg || !isZero(x) {
			t.Error(n, e)
		}
	}
}

func TestWrongSectors(t *testing.T) {
	for _, n := range []int{1, 2, 100, 4096} {
		d := fresh(t, n)
		full := d
		full.Pending = writes(4096, 0)
		for _, at := range []int{-1, n, n + 1, 1 << 40, math.MinInt, math.MaxInt} {
			if b, e := Read(d, at); e != api.ErrDisk || len(b) > 0 {
				t.Error(n, at, "Read", len(b), e)
			}
			// The sector is looked at before the bytes and the pending writes are.
			for _, b := range [][]byte{nil, make([]byte, 128), make([]byte, 129)} {
				x, e := Write(d, at, b)
				y, f := Write(full, at, b)
				if e != api.ErrDisk || f != api.ErrDisk || !isZero(x) || !isZero(y) {
					t.Error(n, at, len(b), "Write", e, f)
				}
			}
		}
		for _, at := range []int{0, n / 2, n - 1} {
			if _, e := Read(d, at); e != api.OK {
				t.Error(n, at, "Read", e)
			}
			if _, e := Write(d, at, nil); e != api.OK {
				t.Error(n, at, "Write", e)
			}
		}
	}
}

func TestWriteOfFullDisk(t *testing.T) {
	d := api.Disk{Sectors: sectors(2), Pending: writes(4095, 1), Left: -1}
	full := wrote(t, d, 0, 50)
	if len(full.Pending) != 4096 || Check(full) != api.OK {
		t.Fatal(len(full.Pending))
	}
	for _, b := range [][]byte{nil, make([]byte, 128)} {
		if x, e := Write(full, 0, b); e != api.ErrLimit || !isZero(x) {
			t.Error(len(b), e)
		}
	}
	// The bytes are looked at before the pending writes are.
	if x, e := Write(full, 0, make([]byte, 129)); e != api.ErrArg || !isZero(x) {
		t.Error(e)
	}
	if b, e := Read(full, 0); e != api.OK || !bytes.Equal(b, filled(128, 50)) {
		t.Error(b, e)
	}
	if x := synced(t, full); !same(x, api.Disk{Sectors: [][]byte{filled(128, 50), filled(128, 9)}, Left: -1}) {
		t.Error(x)
	}
}

// P4.2, P4.3

func TestStoppedDisk(t *testing.T) {
	for _, d := range []api.Disk{
		{Sectors: sectors(2), Stopped: true},
		{Sectors: sectors(2), Stopped: true, Left: -1},
		{Sectors: sectors(2), Stopped: true, Left: 7},
		{Sectors: sectors(2), Stopped: true, Left: 7, Pending: writes(2, 1)},
		{Sectors: sectors(2), Stopped: true, Left: -1, Pending: writes(4096, 1)},
	} {
		for _, n := range []int{-1, 0, 1, 2, 65537} {
			if b, e := Read(d, n); e != api.ErrDisk || len(b) > 0 {
				t.Error(n, "Read", b, e)
			}
			for _, b := range [][]byte{nil, make([]byte, 128), make([]byte, 129)} {
				if x, e := Write(d, n, b); e != api.ErrDisk || !isZero(x) {
					t.Error(n, len(b), "Write", e)
				}
			}
			if x, e := Stop(d, n); e != api.ErrDisk || !isZero(x) {
				t.Error(n, "Stop", e)
			}
		}
		if x, e := Sync(d); e != api.ErrDisk || !isZero(x) {
			t.Error("Sync", e)
		}
		if Check(d) != api.OK {
			t.Error("Check")
		}
		if x := Restart(d); !same(x, api.Disk{Sectors: sectors(2), Left: -1}) {
			t.Error("Restart", x)
		}
	}
}

// R2: what is called does not change its arguments, nor what was returned before; nor does it matter what lies behind a list.
func TestArgumentsAndResultsAreKept(t *testing.T) {
	d := fresh(t, 3)
	d = wrote(t, d, 0, 1)
	d = synced(t, d)
	d = wrote(t, d, 1, 2)
	d = wrote(t, d, 0, 3)
	d.Pending = append(make([]api.Write, 0, 50), d.Pending...)
	d = stopping(t, d, 1)
	results := []api.Disk{d, wrote(t, d, 0, 4), wrote(t, d, 1, 5), wrote(t, d, 2, 6), stopping(t, d, 2), stopping(t, d, 0), Restart(d)}
	var old []api.Disk
	for _, x := range results {
		old = append(old, cloned(x))
	}
	for range 2 {
		for _, x := range results {
			read, _ := Read(x, 0)
			before := slices.Clone(read)
			y := wrote(t, x, 2, 7)
			z := wrote(t, x, 2, 8)
			if n := len(x.Pending); y.Pending[n].Data[0] != 7 || z.Pending[n].Data[0] != 8 {
				t.Error("two writes to one disk are the same")
			}
			s, e := Sync(x)
			if again, f := Sync(x); f != e || !same(s, again) {
				t.Error("two syncs of one disk differ")
			}
			Sync(Restart(s))
			Sync(wrote(t, Restart(s), 0, 9))
			Check(x)
			if !bytes.Equal(read, before) {
				t.Error("a result of Read has changed")
			}
		}
		if !reflect.DeepEqual(results, old) {
			t.Fatal("disks have changed")
		}
	}
}

// A caller may use the bytes that it has written for other things.
func TestWrittenBytesAreCopied(t *testing.T) {
	for _, n := range []int{1, 127, 128} {
		b := filled(n, 5)
		d, e := Write(fresh(t, 1), 0, b)
		if e != api.OK {
			t.Fatal(e)
		}
		b[0] = 6
		if got, e := Read(d, 0); e != api.OK || got[0] != 5 {
			t.Error(n, got, e)
		}
	}
}
