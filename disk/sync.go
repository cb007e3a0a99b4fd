package disk

import "kinesphere/api"

// Sync performs the pending writes. If the disk stops, it is returned together with the error.
func Sync(d api.Disk) (x api.Disk, e api.Errno) {
	if !runs(d) {
		return api.Disk{}, api.ErrDisk
	}
	n := performed(d)
	x = api.Disk{Sectors: perform(d.Sectors, d.Pending[:n:n]), Left: d.Left}
	if x.Left != all {
		x.Left -= n
	}
	if n == len(d.Pending) {
		return x, api.OK
	}
	next := d.Pending[n]
	x.Sectors[next.At] = torn(x.Sectors[next.At], next.Data)
	x.Stopped = true
	return x, api.ErrDisk
}

// Stop lets a disk stop after some writes.
func Stop(d api.Disk, left int) (x api.Disk, e api.Errno) {
	if !runs(d) {
		return api.Disk{}, api.ErrDisk
	}
	if left < 0 || left > maxLeft {
		return api.Disk{}, api.ErrArg
	}
	d.Left = left
	return d, api.OK
}

// performed returns how many of the pending writes a sync performs.
func performed(d api.Disk) int {
	if d.Left == all {
		return len(d.Pending)
	}
	return min(d.Left, len(d.Pending))
}

// perform returns the sectors after some writes. Those that are not written are shared with the disk before.
func perform(sectors [][]byte, writes []api.Write) [][]byte {
	after := make([][]byte, len(sectors))
	copy(after, sectors)
	for _, w := range writes {
		after[w.At] = sector(w.Data)
	}
	return after
}

// torn returns a sector in which only the first half of data has arrived.
func torn(old, data []byte) []byte {
	s := sector(old)
	copy(s[:api.SectorSize/2], data)
	return s
}
