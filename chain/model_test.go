package chain

import (
	"bytes"
	"crypto/sha256"
	"encoding/binary"
	"slices"

	"kinesphere/api"
)

// tagged is what the document calls a tagged digest, with the hash function of Go's library.
func tagged(tag string, b []byte) api.Digest {
	h := sha256.Sum256([]byte(tag))
	return sha256.Sum256(append(h[:], b...))
}

// encoded is the encoding of the list of the fields of a link. Go's varints are the numerals of the document.
func encoded(x api.Link) []byte {
	b := binary.AppendVarint([]byte{api.ListV, 4, api.IntV}, int64(x.Node))
	b = binary.AppendVarint(append(b, api.IntV), int64(x.No))
	b = append(append(b, api.TextV, 32), x.Prev[:]...)
	return append(binary.AppendUvarint(append(b, api.TextV), uint64(len(x.Data))), x.Data...)
}

func modelHead(l []api.Link) api.Digest {
	if len(l) == 0 {
		return tagged("none", nil)
	}
	return tagged("link", encoded(l[len(l)-1]))
}

func modelCheck(l []api.Link) api.Errno {
	if len(l) > 1024 {
		return api.ErrLimit
	}
	for i, x := range l {
		wrong := []bool{x.Node < 0, x.Node > 23, x.Node != l[0].Node, x.No != i, x.Prev != modelHead(l[:i]), len(x.Data) > 65536}
		if slices.Contains(wrong, true) {
			return api.ErrChain
		}
	}
	return api.OK
}

func modelAdd(l []api.Link, node int, data []byte) ([]api.Link, api.Errno) {
	switch {
	case modelCheck(l) != api.OK:
		return nil, modelCheck(l)
	case node < 0, node > 23, len(l) > 0 && node != l[0].Node, len(data) > 65536:
		return nil, api.ErrArg
	case len(l) == 1024:
		return nil, api.ErrLimit
	}
	return append(slices.Clone(l), api.Link{Node: node, No: len(l), Prev: modelHead(l), Data: data}), api.OK
}

func modelPart(a, b []api.Link) (int, bool, api.Errno) {
	switch {
	case modelCheck(a) != api.OK:
		return 0, false, modelCheck(a)
	case modelCheck(b) != api.OK:
		return 0, false, modelCheck(b)
	case len(a) > 0 && len(b) > 0 && a[0].Node != b[0].Node:
		return 0, false, api.ErrChain
	}
	for i := 0; i < len(a) && i < len(b); i++ {
		if !bytes.Equal(encoded(a[i]), encoded(b[i])) {
			return i, true, api.OK
		}
	}
	return 0, false, api.OK
}

// linked returns a list of links whose numbers and heads are right, whatever the node and the data are.
func linked(node int, data ...[]byte) (l []api.Link) {
	for i, b := range data {
		l = append(l, api.Link{Node: node, No: i, Prev: modelHead(l), Data: b})
	}
	return l
}

// words returns the data of linked.
func words(l ...string) (data [][]byte) {
	for _, s := range l {
		data = append(data, []byte(s))
	}
	return data
}

// long returns a chain of n links, whose data have 0 to 99 bytes.
func long(node, n int) []api.Link {
	x := uint32(n)
	data := make([][]byte, n)
	for i := range data {
		data[i] = make([]byte, i%100)
		for j := range data[i] {
			x = x*1664525 + 1013904223
			data[i][j] = byte(x >> 24)
		}
	}
	return linked(node, data...)
}

func cloned(l []api.Link) []api.Link {
	l = slices.Clone(l)
	for i, x := range l {
		l[i].Data = bytes.Clone(x.Data)
	}
	return l
}

func equal(l, m []api.Link) bool {
	return slices.EqualFunc(l, m, func(x, y api.Link) bool {
		return x.Node == y.Node && x.No == y.No && x.Prev == y.Prev && string(x.Data) == string(y.Data)
	})
}

// changes returns links that differ from x in one field each, and some that differ in more of them.
func changes(x api.Link) (l []api.Link) {
	change := func(f func(y *api.Link)) {
		y := x
		y.Data = bytes.Clone(x.Data)
		f(&y)
		l = append(l, y)
	}
	for _, n := range []int{-1 << 63, -24, -1, 0, 1, 22, 23, 24, 25, 256, 1 << 32, 1<<63 - 1} {
		if n != x.Node {
			change(func(y *api.Link) { y.Node = n })
		}
		if n != x.No {
			change(func(y *api.Link) { y.No = n })
		}
	}
	change(func(y *api.Link) { y.No++ })
	change(func(y *api.Link) { y.No-- })
	change(func(y *api.Link) { y.No, y.Node = y.Node, y.No+1 })
	for i := range x.Prev {
		change(func(y *api.Link) { y.Prev[i] ^= 1 << (i % 8) })
	}
	change(func(y *api.Link) { y.Prev = api.Digest{} })
	change(func(y *api.Link) { slices.Reverse(y.Prev[:]) })
	change(func(y *api.Link) { y.Data = append(y.Data, 0) })
	change(func(y *api.Link) { y.Data = append([]byte{0}, y.Data...) })
	for i := range x.Data {
		change(func(y *api.Link) { y.Data[i] ^= 1 << (i % 8) })
		change(func(y *api.Link) { y.Data = y.Data[:i] })
	}
	return l
}
