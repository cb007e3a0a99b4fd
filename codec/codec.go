// Package codec encodes values canonically. See shared/doc/01-codec.md.
package codec

import (
	"slices"

	"kinesphere/api"
)

// Check returns ErrArg for a value that is not well-formed, and ErrLimit for one that is nested too deeply.
func Check(v api.Value) (e api.Errno) {
	// The whole value is looked at first: a wrong element outranks the depth, wherever it is.
	if !wellFormed(v) {
		return api.ErrArg
	}
	if depth(v) > api.MaxDepth {
		return api.ErrLimit
	}
	return api.OK
}

// Encode returns the encoding of a value.
func Encode(v api.Value) (b []byte, e api.Errno) {
	if e = Check(v); e != api.OK {
		return nil, e
	}
	return write(make([]byte, 0, size(v)), v), api.OK
}

// Decode returns the value of an encoding.
func Decode(b []byte) (v api.Value, e api.Errno) {
	defer func() {
		if recover() != nil {
			v, e = api.Value{}, api.ErrCode
		}
	}()
	r := reader{rest: b[:len(b):len(b)]}
	v = r.value(api.MaxDepth)
	r.end()
	return v, api.OK
}

// Size returns the length of the encoding of a value.
func Size(v api.Value) (n int, e api.Errno) {
	if e = Check(v); e != api.OK {
		return 0, e
	}
	return size(v), api.OK
}

// Same reports whether two values are equal. They need not be well-formed.
func Same(a, b api.Value) (same bool) {
	return a.Kind == b.Kind && a.N == b.N && a.S == b.S && slices.EqualFunc(a.L, b.L, Same)
}

// wellFormed reports whether v has a kind, and values only in the fields that its kind uses.
func wellFormed(v api.Value) bool {
	switch v.Kind {
	case api.IntV:
		return v.S == "" && len(v.L) == 0
	case api.TextV:
		return v.N == 0 && len(v.L) == 0
	case api.ListV:
		return v.N == 0 && v.S == "" && allWellFormed(v.L)
	}
	return false
}

func allWellFormed(l []api.Value) bool {
	for _, v := range l {
		if !wellFormed(v) {
			return false
		}
	}
	return true
}

// depth returns how many lists lie within each other in v, which is well-formed.
func depth(v api.Value) int {
	if v.Kind != api.ListV {
		return 0
	}
	deepest := 0
	for _, x := range v.L {
		deepest = max(deepest, depth(x))
	}
	return 1 + deepest
}
