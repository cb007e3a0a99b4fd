package codec

import "kinesphere/api"

// reader reads from the beginning of rest. Where there is no encoding, its methods panic, and Decode recovers.
type reader struct{ rest []byte }

// take removes the next n bytes. Neither part can grow into the other one, nor into what the caller has behind them.
func (r *reader) take(n uint64) []byte {
	if n > uint64(len(r.rest)) {
		panic(api.ErrCode)
	}
	taken := r.rest[:n:n]
	r.rest = r.rest[n:len(r.rest):len(r.rest)]
	return taken
}

// end makes sure that nothing follows.
func (r *reader) end() {
	if len(r.rest) > 0 {
		panic(api.ErrCode)
	}
}

// value reads a value with at most the given depth.
func (r *reader) value(depth int) api.Value {
	switch r.take(1)[0] {
	case api.IntV:
		return api.Value{Kind: api.IntV, N: signed(r.numeral())}
	case api.TextV:
		return api.Value{Kind: api.TextV, S: string(r.take(r.numeral()))}
	case api.ListV:
		return api.Value{Kind: api.ListV, L: r.list(depth)}
	}
	panic(api.ErrCode)
}

// list reads the number of elements of a list, and the elements.
func (r *reader) list(depth int) (l []api.Value) {
	if depth == 0 {
		panic(api.ErrCode)
	}
	// The list grows with what has been read: the number may promise far more elements than there are bytes.
	for range r.numeral() {
		l = append(l, r.value(depth-1))
	}
	return l
}

func (r *reader) numeral() (u uint64) {
	for shift := 0; ; shift += 7 {
		b := r.take(1)[0]
		digit := uint64(b % 128)
		if digit<<shift>>shift != digit {
			panic(api.ErrCode) // more than 64 bits
		}
		u |= digit << shift
		if b >= 128 {
			continue
		}
		if b == 0 && shift > 0 {
			panic(api.ErrCode) // a superfluous digit
		}
		return u
	}
}

// signed returns the integer with the unsigned form u.
func signed(u uint64) int {
	if u%2 == 0 {
		return int(u / 2)
	}
	return ^int(u / 2)
}
