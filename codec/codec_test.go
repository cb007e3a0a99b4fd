package codec

import (
	"bytes"
	"math"
	"slices"
	"strconv"
	"strings"
	"testing"

	"kinesphere/api"
)

func num(n int) api.Value { return api.Value{Kind: api.IntV, N: n} }

func text(s string) api.Value { return api.Value{Kind: api.TextV, S: s} }

func list(l ...api.Value) api.Value { return api.Value{Kind: api.ListV, L: l} }

// nested returns n lists, one within the other.
func nested(n int) api.Value {
	v := list()
	for range n - 1 {
		v = list(v)
	}
	return v
}

// nines returns first, nine times 255, and last.
func nines(first byte, last ...byte) []byte {
	return slices.Concat([]byte{first}, bytes.Repeat([]byte{255}, 9), last)
}

type example struct {
	v api.Value
	b []byte
}

// examples are values and their encodings: those of the chapter, and the edges of kinds, numerals and depths.
func examples() []example {
	return []example{
		{num(0), []byte{1, 0}},
		{num(-1), []byte{1, 1}},
		{num(1), []byte{1, 2}},
		{num(-3), []byte{1, 5}},
		{num(63), []byte{1, 126}},
		{num(-64), []byte{1, 127}},
		{num(64), []byte{1, 128, 1}},
		{num(-65), []byte{1, 129, 1}},
		{num(100), []byte{1, 200, 1}},
		{num(8191), []byte{1, 254, 127}},
		{num(-8192), []byte{1, 255, 127}},
		{num(8192), []byte{1, 128, 128, 1}},
		{num(1 << 40), []byte{1, 128, 128, 128, 128, 128, 64}},
		{num(math.MaxInt), append([]byte{1, 254}, nines(255, 1)[2:]...)},
		{num(math.MinInt), nines(1, 1)},
		{num(1 << 62), []byte{1, 128, 128, 128, 128, 128, 128, 128, 128, 128, 1}},
		{num(1<<62 - 1), append([]byte{1, 254}, nines(255, 127)[3:]...)},
		{text(""), []byte{2, 0}},
		{text("ab"), []byte{2, 2, 97, 98}},
		{text("\x00\xff\x80"), []byte{2, 3, 0, 255, 128}},
		{text("é"), []byte{2, 2, 195, 169}},
		{text(strings.Repeat("x", 127)), append([]byte{2, 127}, strings.Repeat("x", 127)...)},
		{text(strings.Repeat("x", 128)), append([]byte{2, 128, 1}, strings.Repeat("x", 128)...)},
		{text(strings.Repeat("x", 300)), append([]byte{2, 172, 2}, strings.Repeat("x", 300)...)},
		{list(), []byte{3, 0}},
		{list(num(100), text("ab")), []byte{3, 2, 1, 200, 1, 2, 2, 97, 98}},
		{list(text("ab"), num(100)), []byte{3, 2, 2, 2, 97, 98, 1, 200, 1}},
		{list(list(), list(num(0))), []byte{3, 2, 3, 0, 3, 1, 1, 0}},
		{list(slices.Repeat([]api.Value{num(0)}, 130)...), append([]byte{3, 130, 1}, bytes.Repeat([]byte{1, 0}, 130)...)},
		{nested(api.MaxDepth), append(bytes.Repeat([]byte{3, 1}, api.MaxDepth-1), 3, 0)},
		{list(num(1), nested(api.MaxDepth-1), text("z")), slices.Concat([]byte{3, 3, 1, 2}, bytes.Repeat([]byte{3, 1}, api.MaxDepth-2), []byte{3, 0, 2, 1, 'z'})},
	}
}

// generated returns many different values: numbers around powers of two, texts, and lists of them within lists.
func generated() []api.Value {
	var l []api.Value
	for k := range 64 {
		for d := -2; d <= 2; d++ {
			l = append(l, num(1<<k+d))
		}
	}
	for n := -300; n <= 300; n++ {
		l = append(l, num(n))
	}
	for n := range 300 {
		l = append(l, text(strings.Repeat("\x01", n)), text(strconv.Itoa(n)))
	}
	l = distinct(l)
	step := func(k int) api.Value { return l[k*7919%len(l)] }
	for k := range 400 {
		x, y, z := step(k), step(k+1), step(2*k+5)
		l = append(l, list(x), list(x, y), list(list(x), y), list(list(x, y), list(), z))
	}
	for n := range 200 {
		l = append(l, list(l[:n]...))
	}
	for n := 1; n <= api.MaxDepth; n++ {
		l = append(l, nested(n))
	}
	return distinct(l)
}

// distinct leaves the first one of equal values. It compares them as they are printed, without the codec.
func distinct(l []api.Value) []api.Value {
	var out []api.Value
	seen := map[string]bool{}
	for _, v := range l {
		if key := printed(v); !seen[key] {
			seen[key] = true
			out = append(out, v)
		}
	}
	return out
}

func printed(v api.Value) string {
	s := strconv.Itoa(v.Kind) + ":" + strconv.Itoa(v.N) + ":" + strconv.Quote(v.S) + "("
	for _, x := range v.L {
		s += printed(x) + ","
	}
	return s + ")"
}

// P1.1

func TestWellFormedValues(t *testing.T) {
	for i, x := range examples() {
		if e := Check(x.v); e != api.OK {
			t.Error(i, "Check", e)
		}
		if b, e := Encode(x.v); e != api.OK || !bytes.Equal(b, x.b) {
			t.Error(i, "Encode", b, e, "not", x.b)
		}
		if n, e := Size(x.v); e != api.OK || n != len(x.b) {
			t.Error(i, "Size", n, e, "not", len(x.b))
		}
	}
}

func TestWrongValues(t *testing.T) {
	bad := api.Value{Kind: api.IntV, S: "a"}
	for i, x := range []struct {
		v api.Value
		e api.Errno
	}{
		{api.Value{}, api.ErrArg},
		{api.Value{Kind: -1}, api.ErrArg},
		{api.Value{Kind: 4}, api.ErrArg},
		{api.Value{Kind: 257}, api.ErrArg},
		{api.Value{Kind: math.MinInt}, api.ErrArg},
		{api.Value{Kind: math.MaxInt, N: 1, S: "a"}, api.ErrArg},
		{api.Value{Kind: api.IntV, N: 1, S: "a"}, api.ErrArg},
		{api.Value{Kind: api.IntV, L: []api.Value{num(1)}}, api.ErrArg},
		{api.Value{Kind: api.TextV, N: 1}, api.ErrArg},
		{api.Value{Kind: api.TextV, S: "a", L: []api.Value{{}}}, api.ErrArg},
		{api.Value{Kind: api.ListV, N: -1}, api.ErrArg},
		{api.Value{Kind: api.ListV, S: "a", L: []api.Value{num(1)}}, api.ErrArg},
		{list(bad), api.ErrArg},
		{list(num(1), text("a"), api.Value{}), api.ErrArg},
		{list(bad, num(1)), api.ErrArg},
		{list(list(list(num(1)), list(bad)), num(1)), api.ErrArg},
		{nested(api.MaxDepth + 1), api.ErrLimit},
		{list(nested(api.MaxDepth), num(1)), api.ErrLimit},
		{list(num(1), nested(api.MaxDepth)), api.ErrLimit},
		{list(nested(3), list(nested(api.MaxDepth)), nested(2)), api.ErrLimit},
		{nested(1 << 16), api.ErrLimit},
		// What is not well-formed is ErrArg also within and beside what is too deep.
		{list(nested(api.MaxDepth), bad), api.ErrArg},
		{list(bad, nested(api.MaxDepth)), api.ErrArg},
		{deepWithin(api.MaxDepth+1, bad), api.ErrArg},
		{deepWithin(1000, bad), api.ErrArg},
	} {
		if e := Check(x.v); e != x.e {
			t.Error(i, "Check", e, "not", x.e)
		}
		if b, e := Encode(x.v); e != x.e || len(b) > 0 {
			t.Error(i, "Encode", b, e, "not", x.e)
		}
		if n, e := Size(x.v); e != x.e || n != 0 {
			t.Error(i, "Size", n, e, "not", x.e)
		}
	}
}

// deepWithin returns v within n lists.
func deepWithin(n int, v api.Value) api.Value {
	for range n {
		v = list(v)
	}
	return v
}

// An integer or a text has the depth 0, so that it fits into the deepest list.
func TestDepthOfElements(t *testing.T) {
	for i, v := range []api.Value{num(7), text("a")} {
		if e := Check(deepWithin(api.MaxDepth, v)); e != api.OK {
			t.Error(i, e)
		}
		if e := Check(deepWithin(api.MaxDepth+1, v)); e != api.ErrLimit {
			t.Error(i, e)
		}
	}
}

func TestEmptySlicesAreNil(t *testing.T) {
	none := []api.Value{}
	for i, x := range []struct{ a, b api.Value }{
		{api.Value{Kind: api.IntV, N: 3, L: none}, num(3)},
		{api.Value{Kind: api.TextV, S: "a", L: none}, text("a")},
		{api.Value{Kind: api.ListV, L: none}, api.Value{Kind: api.ListV}},
	} {
		a, e := Encode(x.a)
		b, f := Encode(x.b)
		if e != api.OK || f != api.OK || !bytes.Equal(a, b) || !Same(x.a, x.b) {
			t.Error(i, a, e, b, f)
		}
	}
}

// P1.2

func TestDecodeExamples(t *testing.T) {
	for i, x := range examples() {
		if v, e := Decode(x.b); e != api.OK || printed(v) != printed(x.v) {
			t.Error(i, printed(v), e)
		}
	}
}

func TestDecodeWrongBytes(t *testing.T) {
	long := bytes.Repeat([]byte{128}, 1000)
	for i, b := range [][]byte{
		nil, {}, {0}, {4}, {255}, {0, 0}, {4, 0}, {129, 0},
		// Numerals: cut off, with superfluous digits, of more than 64 bits.
		{1}, {1, 128}, {1, 255, 255}, {1, 128, 0}, {1, 129, 0}, {1, 129, 128, 0}, {1, 128, 128, 0},
		nines(1), nines(1, 0), nines(1, 2), nines(1, 3), nines(1, 64), nines(1, 127), nines(1, 128), nines(1, 129, 0), nines(1, 129, 1), nines(1, 128, 1),
		append([]byte{1}, long...), slices.Concat([]byte{1}, long, []byte{0}), slices.Concat([]byte{1}, long, []byte{1}),
		// Superfluous bytes.
		{1, 5, 0}, {1, 0, 1, 0}, {2, 0, 0}, {2, 1, 'a', 'b'}, {3, 0, 3, 0}, {3, 1, 1, 0, 0},
		// Texts.
		{2}, {2, 1}, {2, 3, 97}, {2, 3, 97, 98}, {2, 128, 0}, {2, 129, 0, 97}, nines(2, 1), nines(2, 0), append([]byte{2, 128}, nines(128, 1)[2:]...),
		// Lists: too few elements, wrong elements, wrong numbers of elements.
		{3}, {3, 1}, {3, 1, 1}, {3, 2, 1, 0}, {3, 1, 5}, {3, 1, 0, 0}, {3, 128, 0}, {3, 129, 0, 1, 0}, {3, 2, 1, 0, 2, 1}, nines(3, 1), {3, 1, 3, 1, 1, 128, 0},
		// Too deep.
		append(bytes.Repeat([]byte{3, 1}, api.MaxDepth), 3, 0),
		append(bytes.Repeat([]byte{3, 1}, api.MaxDepth+1), 1, 0),
		slices.Concat([]byte{3, 2, 1, 0}, bytes.Repeat([]byte{3, 1}, api.MaxDepth-1), []byte{3, 0}),
		bytes.Repeat([]byte{3, 1}, 1<<16),
	} {
		if v, e := Decode(b); e != api.ErrCode || !Same(v, api.Value{}) {
			t.Error(i, printed(v), e)
		}
	}
}

// Every beginning of an encoding, and every encoding with a byte more, is none.
func TestDecodeCutOff(t *testing.T) {
	for i, x := range examples() {
		for n := range x.b {
			if v, e := Decode(x.b[:n]); e != api.ErrCode || !Same(v, api.Value{}) {
				t.Error(i, n, printed(v), e)
			}
		}
		if _, e := Decode(append(slices.Clone(x.b), 0)); e != api.ErrCode {
			t.Error(i, e)
		}
		// What lies behind the slice, within its capacity, does not count.
		if v, e := Decode(append(slices.Clone(x.b), 1, 0)[:len(x.b)]); e != api.OK || !Same(v, x.v) {
			t.Error(i, printed(v), e)
		}
	}
}

// accepts says independently whether exactly one value begins at the beginning of b, and how long its encoding is.
func accepts(b []byte, depth int) (n int, ok bool) {
	if len(b) == 0 || b[0] < 1 || b[0] > 3 || b[0] == 3 && depth == 0 {
		return 0, false
	}
	last := slices.IndexFunc(b[1:], func(x byte) bool { return x < 128 }) + 1
	if last == 0 || last > 1 && b[last] == 0 || last > 10 || last == 10 && b[10] > 1 {
		return 0, false
	}
	count := uint64(0)
	for k := last; k > 0; k-- {
		count = count*128 + uint64(b[k]%128)
	}
	n = last + 1
	switch {
	case b[0] == 2 && count > uint64(len(b)-n):
		return 0, false
	case b[0] == 2:
		return n + int(count), true
	case b[0] == 3:
		for range count {
			m, ok := accepts(b[n:], depth-1)
			if !ok {
				return 0, false
			}
			n += m
		}
	}
	return n, true
}

// All short sequences of some bytes: exactly the encodings are decoded, and encoded as they were.
func TestDecodeAllShortBytes(t *testing.T) {
	digits := []byte{0, 1, 2, 3, 4, 127, 128, 255}
	var all func(b []byte)
	all = func(b []byte) {
		n, ok := accepts(b, api.MaxDepth)
		ok = ok && n == len(b)
		v, e := Decode(b)
		if ok != (e == api.OK) || !ok && (e != api.ErrCode || !Same(v, api.Value{})) {
			t.Fatal(b, printed(v), e)
		}
		if c, f := Encode(v); ok && (f != api.OK || !bytes.Equal(c, b)) {
			t.Fatal(b, printed(v), c, f)
		}
		if len(b) == 6 {
			return
		}
		for _, d := range digits {
			all(append(b, d))
		}
	}
	all(nil)
}

// A number of elements, or of bytes, that nothing follows costs neither time nor memory.
func TestDecodeHugeNumbers(t *testing.T) {
	for _, b := range [][]byte{nines(3, 1), nines(2, 1), {3, 255, 255, 255, 255, 127, 1, 0}, {2, 255, 255, 255, 255, 127, 0}} {
		r := testing.AllocsPerRun(10, func() { Decode(b) })
		if _, e := Decode(b); e != api.ErrCode || r > 100 {
			t.Error(b, e, r)
		}
	}
}

// P1.3

func TestSame(t *testing.T) {
	l := []api.Value{
		{}, {N: 1}, {S: "a"}, {L: []api.Value{{}}}, {Kind: -1}, {Kind: 4}, {Kind: 4, N: 1, S: "a", L: []api.Value{{}}}, {Kind: 4, N: 1, S: "a"},
		num(0), num(1), num(-1), num(math.MinInt), {Kind: api.IntV, S: "a"}, {Kind: api.IntV, L: []api.Value{num(0)}},
		text(""), text("a"), text("b"), text("ab"), text("A"), {Kind: api.TextV, N: 1},
		list(), list(num(0)), list(num(1)), list(num(0), num(1)), list(num(1), num(0)), list(num(0), num(0)), list(list()), list(list(), list()), list(list(num(0))), list(text("")), {Kind: api.ListV, N: 1}, {Kind: api.ListV, S: "a"},
		list(list(num(1), num(2)), num(3)), list(list(num(1), num(2)), num(4)), list(list(num(1), num(3)), num(3)), list(list(num(1)), num(2), num(3)),
		nested(40), nested(41), deepWithin(40, num(1)), deepWithin(40, num(2)), nested(1 << 16),
	}
	for i, x := range l {
		for k, y := range l {
			if Same(x, y) != (i == k) {
				t.Error(i, k)
			}
		}
	}
	if !Same(nested(1<<16), nested(1<<16)) {
		t.Error("deep lists")
	}
	if !Same(list(list(num(1)), text("a")), list(list(num(1)), text("a"))) {
		t.Error("lists with memory of their own")
	}
}

func TestSameNilAndEmpty(t *testing.T) {
	none := []api.Value{}
	for kind := -1; kind <= 4; kind++ {
		a, b := api.Value{Kind: kind}, api.Value{Kind: kind, L: none}
		if !Same(a, b) || !Same(b, a) || !Same(list(a), list(b)) {
			t.Error(kind)
		}
	}
}

// P1.4

func TestThereAndBack(t *testing.T) {
	for _, v := range generated() {
		b, e := Encode(v)
		w, f := Decode(b)
		if e != api.OK || f != api.OK || !Same(v, w) || printed(v) != printed(w) {
			t.Error(printed(v), e, printed(w), f)
		}
		if c, e := Encode(w); e != api.OK || !bytes.Equal(b, c) {
			t.Error(b, c, e)
		}
		if n, e := Size(v); e != api.OK || n != len(b) {
			t.Error(printed(v), n, e, len(b))
		}
	}
}

// Sorted, an encoding that is the beginning of another one (or equal to it) stands right before such a one.
func TestNoEncodingBeginsAnother(t *testing.T) {
	var all [][]byte
	for _, v := range generated() {
		b, _ := Encode(v)
		all = append(all, b)
	}
	slices.SortFunc(all, bytes.Compare)
	for i, b := range all[1:] {
		if bytes.HasPrefix(b, all[i]) {
			t.Error(all[i], b)
		}
	}
}

func TestSizeOfLists(t *testing.T) {
	zero, _ := Size(num(0))
	l := slices.DeleteFunc(generated(), func(v api.Value) bool { return Check(list(v)) != api.OK })
	for n := 0; n <= len(l); n = n*3/2 + 1 {
		want, _ := Size(list(slices.Repeat([]api.Value{num(0)}, n)...))
		want -= n * zero
		for _, v := range l[:n] {
			k, _ := Size(v)
			want += k
		}
		if got, e := Size(list(l[:n]...)); e != api.OK || got != want {
			t.Error(n, got, e, want)
		}
	}
}

// R2: arguments stay as they are, and results do not change afterwards.
func TestPurity(t *testing.T) {
	v := list(num(100), text("ab"), list(num(1)))
	before := printed(v)
	b, _ := Encode(v)
	c, _ := Encode(v)
	old := slices.Clone(b)
	w, _ := Decode(b)
	if printed(v) != before || !bytes.Equal(b, old) || !bytes.Equal(c, old) {
		t.Error("arguments")
	}
	x, _ := Decode(b)
	clear(b)
	x.L[0].N, x.L[2].L[0].N = 9, 9
	if printed(w) != before || !bytes.Equal(c, old) {
		t.Error("results")
	}
}
