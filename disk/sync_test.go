package disk

import (
	"bytes"
	"math"
	"slices"
	"testing"

	"kinesphere/api"
)

// halves returns a sector of two halves.
func halves(a, b byte) []byte { return slices.Concat(filled(64, a), filled(64, b)) }

// P4.3

func TestSyncPerformsAll(t *testing.T) {
	for _, x := range []struct{ left, after int }{{-1, -1}, {3, 0}, {4, 1}, {5, 2}, {65536, 65533}} {
		d := api.Disk{Sectors: sectors(3), Left: x.left}
		d = wrote(t, d, 2, 20)
		d = wrote(t, d, 0, 21)
		d = wrote(t, d, 2, 22)
		s, e := Sync(d)
		if e != api.OK || !same(s, api.Disk{Sectors: [][]byte{filled(128, 21), filled(128, 2), filled(128, 22)}, Left: x.after}) {
			t.Error(x, s, e)
		}
	}
}

func TestSyncOfNothing(t *testing.T) {
	for _, left := range []int{-1, 0, 1, 65536} {
		d := api.Disk{Sectors: sectors(2), Left: left}
		if x, e := Sync(d); e != api.OK || !same(x, d) {
			t.Error(left, x.Left, x.Stopped, e)
		}
	}
}

func TestSyncStops(t *testing.T) {
	list := []api.Write{{At: 0, Data: halves(10, 11)}, {At: 1, Data: halves(12, 13)}, {At: 0, Data: halves(14, 15)}, {At: 0, Data: halves(16, 17)}, {At: 2, Data: halves(18, 19)}}
	for left, want := range [][3][2]byte{
		{{10, 1}, {2, 2}, {3, 3}},
		{{10, 11}, {12, 2}, {3, 3}},
		{{14, 11}, {12, 13}, {3, 3}},
		{{16, 15}, {12, 13}, {3, 3}},
		{{16, 17}, {12, 13}, {18, 3}},
	} {
		d := api.Disk{Sectors: sectors(3), Pending: list, Left: left}
		x, e := Sync(d)
		after := api.Disk{Stopped: true}
		for _, h := range want {
			after.Sectors = append(after.Sectors, halves(h[0], h[1]))
		}
		if e != api.ErrDisk || !same(x, after) || Check(x) != api.OK {
			t.Error(left, x, e)
		}
		if r := Restart(x); !same(r, api.Disk{Sectors: after.Sectors, Left: -1}) {
			t.Error(left, r)
		}
	}
}

// Exactly the bytes 0 to 63 are those of the torn write.
func TestTornBytes(t *testing.T) {
	var old, data []byte
	for i := range 128 {
		old, data = append(old, byte(i)), append(data, byte(255-i))
	}
	x, e := Sync(api.Disk{Sectors: [][]byte{old}, Pending: []api.Write{{Data: data}}})
	if e != api.ErrDisk || len(x.Sectors) != 1 || !bytes.Equal(x.Sectors[0], slices.Concat(data[:64], old[64:])) {
		t.Error(x, e)
	}
}

// The zero bytes that follow a short write belong to it, also if it is torn.
func TestShortWriteIsTorn(t *testing.T) {
	for _, n := range []int{0, 1, 63, 64, 65, 128} {
		d, e := Write(api.Disk{Sectors: sectors(1)}, 0, filled(n, 8))
		if e != api.OK {
			t.Fatal(e)
		}
		k := min(n, 64)
		x, e := Sync(d)
		if e != api.ErrDisk || !bytes.Equal(x.Sectors[0], slices.Concat(filled(k, 8), make([]byte, 64-k), filled(64, 1))) {
			t.Error(n, x, e)
		}
	}
}

func TestStop(t *testing.T) {
	for _, d := range []api.Disk{
		{Sectors: sectors(2), Left: -1},
		{Sectors: sectors(2), Left: 3},
		{Sectors: sectors(2), Left: 65536, Pending: writes(3, 1)},
		{Sectors: sectors(2), Left: -1, Pending: writes(4096, 1)},
	} {
		for _, left := range []int{0, 1, 2, 4097, 65535, 65536} {
			want := cloned(d)
			want.Left = left
			if x, e := Stop(d, left); e != api.OK || !same(x, want) || Check(x) != api.OK {
				t.Error(left, x.Left, e)
			}
		}
		for _, left := range []int{-1, -2, 65537, 1 << 40, math.MinInt, math.MaxInt} {
			if x, e := Stop(d, left); e != api.ErrArg || !isZero(x) {
				t.Error(left, x.Left, e)
			}
		}
	}
}

// What is left is counted over several syncs.
func TestStopAfterSeveralSyncs(t *testing.T) {
	d := stopping(t, fresh(t, 2), 3)
	d = synced(t, wrote(t, d, 0, 1))
	d = synced(t, d)
	d = synced(t, wrote(t, wrote(t, d, 1, 2), 0, 3))
	d = synced(t, d)
	if d.Left != 0 || d.Stopped {
		t.Fatal(d.Left, d.Stopped)
	}
	x, e := Sync(wrote(t, d, 1, 4))
	if e != api.ErrDisk || !same(x, api.Disk{Sectors: [][]byte{filled(128, 3), halves(4, 2)}, Stopped: true}) {
		t.Error(x, e)
	}
	// A new number replaces the old one.
	d = stopping(t, d, 1)
	if d = synced(t, wrote(t, d, 1, 4)); d.Left != 0 {
		t.Error(d.Left)
	}
}

// P4.4: model is a disk that is described in another way: bytes one after the other, and the halves of writes that wait. It counts
// halves, of which a disk that stops after n writes performs 2 * n + 1.
type model struct {
	bytes   [256]byte
	waiting []half
	halves  int
	endless bool
	stopped bool
}

type half struct {
	from int
	data byte
}

func (m *model) write(at int, c byte) bool {
	if m.stopped {
		return false
	}
	m.waiting = append(slices.Clip(m.waiting), half{128 * at, c}, half{128*at + 64, c})
	return true
}

func (m *model) sync() bool {
	if m.stopped {
		return false
	}
	for _, h := range m.waiting {
		if !m.endless && m.halves == 0 {
			m.stopped = true
			break
		}
		if !m.endless {
			m.halves--
		}
		for i := range 64 {
			m.bytes[h.from+i] = h.data
		}
	}
	m.waiting = nil
	return !m.stopped
}

func (m *model) stop(left int) bool {
	if m.stopped {
		return false
	}
	m.endless, m.halves = false, 2*left+1
	return true
}

func (m *model) restart() bool {
	m.waiting, m.endless, m.stopped, m.halves = nil, true, false, 0
	return true
}

// left is what Left of the disk should be.
func (m *model) left() int {
	if m.endless {
		return -1
	}
	return m.halves / 2
}

// read returns what has been written last.
func (m *model) read() []byte {
	b := m.bytes
	for _, h := range m.waiting {
		for i := range 64 {
			b[h.from+i] = h.data
		}
	}
	return b[:]
}

// agrees compares a disk with its model.
func (m *model) agrees(d api.Disk) bool {
	if Check(d) != api.OK || d.Stopped != m.stopped || d.Left != m.left() || 2*len(d.Pending) != len(m.waiting) || !bytes.Equal(slices.Concat(d.Sectors...), m.bytes[:]) {
		return false
	}
	first, e := Read(d, 0)
	second, f := Read(d, 1)
	if m.stopped {
		return e == api.ErrDisk && f == api.ErrDisk && len(first) == 0 && len(second) == 0
	}
	return e == api.OK && f == api.OK && bytes.Equal(slices.Concat(first, second), m.read())
}

// step does one of seven things to a disk and to its model. It returns the disk after it.
func step(t *testing.T, d api.Disk, m *model, what int, c byte) api.Disk {
	t.Helper()
	var x api.Disk
	var e api.Errno
	var ok bool
	switch what {
	case 0, 1:
		x, e = Write(d, what, filled(128, c))
		ok = m.write(what, c)
	case 2:
		before := m.stopped
		x, e = Sync(d)
		ok = m.sync()
		if m.stopped && !before {
			if e != api.ErrDisk {
				t.Fatal("a sync that stops", e)
			}
			return x
		}
	case 3, 4, 5:
		x, e = Stop(d, what-3)
		ok = m.stop(what - 3)
	case 6:
		x, ok = Restart(d), m.restart()
	}
	if ok != (e == api.OK) || !ok && (e != api.ErrDisk || !isZero(x)) {
		t.Fatal(what, ok, e)
	}
	if !ok {
		return d
	}
	return x
}

// All sequences of up to six of seven things that are done to a disk with two sectors.
func TestAllShortSequences(t *testing.T) {
	var all func(d api.Disk, m model, done []int)
	all = func(d api.Disk, m model, done []int) {
		if !m.agrees(d) {
			t.Fatal(done, d.Left, d.Stopped, len(d.Pending), m.left(), m.stopped)
		}
		if len(done) == 6 {
			return
		}
		for what := range 7 {
			after := m
			x := step(t, d, &after, what, byte(len(done)+1))
			all(x, after, append(slices.Clip(done), what))
		}
	}
	all(fresh(t, 2), model{endless: true}, nil)
}

func TestLongSequences(t *testing.T) {
	for seed := range 300 {
		x := uint32(seed)*2654435761 + 1
		d, m := fresh(t, 2), model{endless: true}
		for i := range 200 {
			x = x*1664525 + 1013904223
			d = step(t, d, &m, int(x>>16)%7, byte(i))
			if !m.agrees(d) {
				t.Fatal(seed, i)
			}
		}
	}
}

// list returns n writes to few sectors of many.
func list(n int) (l []api.Write) {
	for i := range n {
		l = append(l, api.Write{At: i * i % 7, Data: halves(byte(i+10), byte(i+90))})
	}
	return l
}

// For each place at which a disk can stop: a beginning of the writes and half of the next one, and all other sectors are kept.
func TestSyncStopsAnywhere(t *testing.T) {
	const n = 40
	for left := range n + 2 {
		d := api.Disk{Sectors: sectors(9), Pending: list(n), Left: left}
		want := sectors(9)
		for i, w := range d.Pending {
			if i < left {
				want[w.At] = w.Data
			}
			if i == left {
				want[w.At] = slices.Concat(w.Data[:64], want[w.At][64:])
			}
		}
		x, e := Sync(d)
		if left < n && (e != api.ErrDisk || !x.Stopped) || left >= n && (e != api.OK || x.Stopped) || !slices.EqualFunc(x.Sectors, want, bytes.Equal) {
			t.Error(left, x, e)
		}
	}
}

func TestWritesOneByOneOrTogether(t *testing.T) {
	for _, n := range []int{0, 1, 2, 30} {
		for _, left := range []int{-1, n, n + 1, 65536} {
			together := api.Disk{Sectors: sectors(9), Left: left}
			single, pairs := together, together
			for i, w := range list(n) {
				together, _ = Write(together, w.At, w.Data)
				single, _ = Write(single, w.At, w.Data)
				single = synced(t, single)
				pairs, _ = Write(pairs, w.At, w.Data)
				if i%2 == 1 {
					pairs = synced(t, pairs)
				}
			}
			together, pairs = synced(t, together), synced(t, pairs)
			if !same(together, single) || !same(together, pairs) {
				t.Error(n, left, together.Left, single.Left, pairs.Left)
			}
		}
	}
}

// Reading returns the same before and after a sync; and what is read after a restart is what was synced.
func TestReadBeforeAndAfterSync(t *testing.T) {
	d := api.Disk{Sectors: sectors(9), Left: -1}
	for _, w := range list(25) {
		d, _ = Write(d, w.At, w.Data)
	}
	s := synced(t, d)
	later := wrote(t, wrote(t, s, 0, 3), 8, 4)
	for at := range 9 {
		before, e := Read(d, at)
		after, f := Read(s, at)
		lost, g := Read(Restart(d), at)
		kept, h := Read(Restart(later), at)
		if e != api.OK || f != api.OK || g != api.OK || h != api.OK || !bytes.Equal(before, after) || !bytes.Equal(lost, d.Sectors[at]) || !bytes.Equal(kept, after) {
			t.Error(at, e, f, g, h)
		}
	}
}

// The greatest disk with the greatest number of writes.
func TestGreatestDisk(t *testing.T) {
	d := fresh(t, 4096)
	for i := range 4096 {
		d = wrote(t, d, i*5%4096, byte(i))
	}
	if _, e := Write(d, 0, nil); e != api.ErrLimit {
		t.Error(e)
	}
	s := synced(t, d)
	stopped, e := Sync(stopping(t, d, 4095))
	if e != api.ErrDisk || !stopped.Stopped {
		t.Error(e)
	}
	for i := range 4096 {
		want := filled(128, byte(i))
		if !bytes.Equal(s.Sectors[i*5%4096], want) {
			t.Fatal(i)
		}
		if i == 4095 {
			want = halves(255, 0)
		}
		if !bytes.Equal(stopped.Sectors[i*5%4096], want) {
			t.Fatal(i, "stopped")
		}
	}
}
