package journal

import (
	"kinesphere/api"
	"kinesphere/disk"
)

// records yields the records on a disk.
func records(sectors [][]byte) func(yield func(b []byte) bool) {
	return func(yield func(b []byte) bool) {
		g := uint32(0)
		for at := 0; at < len(sectors); {
			b, last, ok := record(sectors, at)
			// What is older than the record before it was left behind by a sync that stopped.
			if !ok || last.generation < g || !yield(b) {
				return
			}
			at, g = last.number+1, last.generation
		}
	}
}

// record returns the record that begins at a sector, and its last piece; false if none begins there, or if it does not end.
func record(sectors [][]byte, at int) (b []byte, last piece, ok bool) {
reading:
	for i, s := range sectors[at:] {
		p, good := read(s, at+i)
		switch {
		case !good, i == 0 && !p.begins(), i > 0 && !p.continues(last):
			break reading
		}
		b, last = append(b, p.data...), p
		if p.ends() {
			return b, last, true
		}
	}
	return nil, piece{}, false
}

// write writes records with a generation to the sectors from at on. They fit there.
func write(d api.Disk, at int, g uint32, records [][]byte) (x api.Disk, e api.Errno) {
	for _, b := range records {
		for p := range split(b) {
			p.generation, p.number = g, at
			s := p.sector()
			if d, e = disk.Write(d, at, s[:]); e != api.OK {
				return api.Disk{}, e
			}
			at++
		}
	}
	return d, api.OK
}

// split yields the pieces of a record. A record without bytes has one, too.
func split(b []byte) func(yield func(p piece) bool) {
	return func(yield func(p piece) bool) {
		p := piece{kind: begins}
		for !p.ends() {
			n := min(len(b), capacity)
			p.data, b = b[:n], b[n:]
			if len(b) == 0 {
				p.kind |= ends
			}
			if !yield(p) {
				return
			}
			p.kind &^= begins
		}
	}
}
