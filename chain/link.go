package chain

import (
	"bytes"

	"kinesphere/api"
	"kinesphere/codec"
	"kinesphere/digest"
)

// noHead returns the head of no links.
func noHead() api.Digest { return digest.Tagged("none", nil) }

// headOf returns the head of the links of which x is the last one. The links before it count through its Prev alone.
func headOf(x api.Link) api.Digest {
	return digest.Tagged("link", text(number(x.Node), number(x.No), bytesOf(x.Prev[:]), bytesOf(x.Data)))
}

// text puts together what is hashed of some values: the encoding of the list of them.
func text(l ...api.Value) []byte {
	// A list of numbers and texts is always well-formed, and of depth 1.
	b, _ := codec.Encode(api.Value{Kind: api.ListV, L: l})
	return b
}

func number(n int) api.Value { return api.Value{Kind: api.IntV, N: n} }

func bytesOf(b []byte) api.Value { return api.Value{Kind: api.TextV, S: string(b)} }

// beginnings yields the links before each link of l, from the first one to the last one, with the head of these links.
// A head is computed when it is asked for, so that nothing is hashed of the links after a wrong one, nor of that itself.
func beginnings(l []api.Link) func(yield func(before []api.Link, head api.Digest) bool) {
	return func(yield func(before []api.Link, head api.Digest) bool) {
		for i := range l {
			if !yield(l[:i:i], Head(l[:i])) {
				return
			}
		}
	}
}

// follows reports whether x may stand after a chain that has this head.
func follows(before []api.Link, head api.Digest, x api.Link) bool {
	return isNode(x.Node) && belongs(before, x.Node) && x.No == len(before) && x.Prev == head && isShort(x.Data)
}

func isNode(node int) bool { return node >= 0 && node < api.MaxNodes }

// belongs reports whether the chain l is one of the node. No links are one of every node.
func belongs(l []api.Link, node int) bool { return len(l) == 0 || l[0].Node == node }

func isShort(data []byte) bool { return len(data) <= api.MaxSource }

// same reports whether two links are equal in all fields.
func same(x, y api.Link) bool {
	return x.Node == y.Node && x.No == y.No && x.Prev == y.Prev && bytes.Equal(x.Data, y.Data)
}

// first returns the least place in l at which something is, and true; 0 and false if it is nowhere.
func first[T any](l []T, is func(i int, x T) bool) (i int, ok bool) {
	for i, x := range l {
		if is(i, x) {
			return i, true
		}
	}
	return 0, false
}
