package sign

import (
	"kinesphere/api"
	"kinesphere/codec"
	"kinesphere/group"
)

// hash returns the number for a tag and the encoding of the list of some integers and texts.
func hash(tag string, l ...any) (n int) {
	list := make([]api.Value, len(l))
	for i, x := range l {
		list[i] = value(x)
	}
	// A list of integers and texts is always well-formed, and of depth 1.
	b, _ := codec.Encode(api.Value{Kind: api.ListV, L: list})
	return group.Hash(tag, b)
}

// value returns an integer or a text as a value of the codec.
func value(x any) (v api.Value) {
	switch x := x.(type) {
	case int:
		v = api.Value{Kind: api.IntV, N: x}
	case []byte:
		v = api.Value{Kind: api.TextV, S: string(x)}
	}
	return v
}
