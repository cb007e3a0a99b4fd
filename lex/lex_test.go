package lex

import (
	"bytes"
	"math"
	"regexp"
	"slices"
	"strconv"
	"strings"
	"testing"

	"kinesphere/api"
)

const (
	letters = "ABCDEFGHIJKLMNOPQRSTUVWXYZabcdefghijklmnopqrstuvwxyz"
	digits  = "0123456789"
	signs   = "{}();,=:.<>!+-*/"
	blanks  = " \t\n\r"
)

func word(s string, at int) api.Token { return api.Token{Kind: api.NameT, Text: s, At: at} }

func num(n, at int) api.Token { return api.Token{Kind: api.NumberT, N: n, At: at} }

func mrk(s string, at int) api.Token { return api.Token{Kind: api.SignT, Text: s, At: at} }

// shifted returns l at places that are later by n.
func shifted(l []api.Token, n int) []api.Token {
	l = slices.Clone(l)
	for i := range l {
		l[i].At += n
	}
	return l
}

// gap and next describe, in another way, what stands before a token, and a token.
var (
	gap  = regexp.MustCompile(`^(?:[ \t\n\r]|//[^\n]*)*`)
	next = regexp.MustCompile(`^(?:([A-Za-z][A-Za-z0-9_]*)|([0-9]+)|([{}();,=:.<>!+*/-]))`)
)

// expected returns what Lex should return.
func expected(src string) (l []api.Token, at int, e api.Errno) {
	if len(src) > 65536 {
		return nil, 0, api.ErrLimit
	}
	for done := 0; ; {
		done += len(gap.FindString(src[done:]))
		if done == len(src) {
			return l, 0, api.OK
		}
		parts := next.FindStringSubmatch(src[done:])
		if parts == nil {
			return nil, done, api.ErrText
		}
		t, ok := meant(parts)
		if !ok {
			return nil, done, api.ErrText
		}
		t.At = done
		l = append(l, t)
		done += len(parts[0])
	}
}

// meant returns the token that next has found.
func meant(parts []string) (t api.Token, ok bool) {
	if s := parts[api.NameT]; s != "" {
		return word(s, 0), len(s) <= 32
	}
	if s := parts[api.NumberT]; s != "" {
		n, err := strconv.ParseInt(s, 10, 64)
		return num(int(n), 0), err == nil && n <= 1<<40 && strconv.FormatInt(n, 10) == s
	}
	return mrk(parts[api.SignT], 0), true
}

// check compares Lex with what is expected.
func check(t *testing.T, src string) {
	t.Helper()
	l, at, e := Lex(src)
	if want, place, f := expected(src); e != f || at != place || !slices.Equal(l, want) {
		if len(src) > 200 {
			src = src[:200] + ".."
		}
		t.Fatalf("%q: %v %d %v, not %v %d %v", src, l, at, e, want, place, f)
	}
}

// generated returns n bytes that follow a simple rule, and are chosen from alphabet.
func generated(n, seed int, alphabet string) string {
	b := make([]byte, n)
	x := uint32(seed)*2654435761 + 1
	for i := range b {
		x = x*1664525 + 1013904223
		b[i] = alphabet[int(x>>16)%len(alphabet)]
	}
	return string(b)
}

// sources are sources with tokens of all kinds, with comments, and with none.
func sources() (l []string) {
	l = []string{
		"", " ", "\n", "//", "// a", "// a\n", "a", "7", "/", "/ /", "sum 30;", "a // b", "a//\nb", "12ab", "ab12_", "a-1", "1099511627776",
		"work w; floor 12 8;\n// two roles\nrole a; role b;\nphrase p { bar 0 { step a = forward 2 / 3; } }\n", strings.Repeat("x", 32), "0", "0 0", "a.b<c>d!e+f*g:h,(i)",
	}
	for i := range 200 {
		s := generated(i, i, "aZ_09 /\n;.")
		if _, _, e := Lex(s); e == api.OK {
			l = append(l, s)
		}
	}
	return l
}

// P3.1

func TestLexTokens(t *testing.T) {
	for _, x := range []struct {
		src  string
		want []api.Token
	}{
		{"", nil},
		{"sum 30;", []api.Token{word("sum", 0), num(30, 4), mrk(";", 6)}},
		{"a=1", []api.Token{word("a", 0), mrk("=", 1), num(1, 2)}},
		{"a // b", []api.Token{word("a", 0)}},
		{"a // b\nc", []api.Token{word("a", 0), word("c", 7)}},
		{"a//b\r\nc", []api.Token{word("a", 0), word("c", 6)}},
		{"//a\rb\nc", []api.Token{word("c", 6)}},
		{"///\n/ /", []api.Token{mrk("/", 4), mrk("/", 6)}},
		{"/", []api.Token{mrk("/", 0)}},
		{"1/2", []api.Token{num(1, 0), mrk("/", 1), num(2, 2)}},
		{"//\n//\n", nil},
		{"// { \" $ \x00 \xff \xc3\xa9 _", nil},
		{"12ab", []api.Token{num(12, 0), word("ab", 2)}},
		{"0a", []api.Token{num(0, 0), word("a", 1)}},
		{"a0", []api.Token{word("a0", 0)}},
		{"a007_", []api.Token{word("a007_", 0)}},
		{"-1", []api.Token{mrk("-", 0), num(1, 1)}},
		{"0.10", []api.Token{num(0, 0), mrk(".", 1), num(10, 2)}},
		{"1099511627776", []api.Token{num(1<<40, 0)}},
		{"1099511627775;", []api.Token{num(1<<40-1, 0), mrk(";", 13)}},
		{"\t\r\n a", []api.Token{word("a", 4)}},
		{strings.Repeat("z", 32) + ";", []api.Token{word(strings.Repeat("z", 32), 0), mrk(";", 32)}},
	} {
		l, at, e := Lex(x.src)
		if at != 0 || e != api.OK || !slices.Equal(l, x.want) {
			t.Errorf("%q: %v %d %v", x.src, l, at, e)
		}
		check(t, x.src)
	}
}

func TestLexWrongSources(t *testing.T) {
	long := strings.Repeat("x", 33)
	for _, x := range []struct {
		src string
		at  int
	}{
		{"007", 0}, {"00", 0}, {"a 01", 2}, {"01a", 0}, {"a $", 2}, {"a$", 1}, {"$ #", 0}, {"_", 0}, {"_12", 0}, {"a _b", 2}, {"1_", 1},
		{long, 0}, {"a " + long + " $", 2}, {"1" + long, 1}, {"x" + strings.Repeat("1", 32), 0}, {"x" + strings.Repeat("_", 32), 0},
		{"1099511627777", 0}, {"a;1099511627777", 2}, {"2000000000000", 0}, {"10000000000000", 0}, {"9223372036854775807", 0}, {"9223372036854775808", 0},
		{"18446744073709551616", 0}, {"18446744073709551617", 0}, {"1" + strings.Repeat("0", 60000), 0}, {strings.Repeat("0", 60000), 0}, {"\n " + strings.Repeat("9", 400), 2},
		{"// a\n$", 5}, {"//\n//$\n\t\"", 8}, {"a\x00", 1}, {"\v", 0}, {"\f", 0}, {"a\x7f", 1}, {"a\x80", 1}, {"\u00a0", 0}, {"é", 0}, {"a\u0660", 1}, {"aé", 1}, {"\ufeffa", 0},
		{"a [", 2}, {"a]", 1}, {"'", 0}, {"a & b", 2}, {"%", 0}, {"a?", 1}, {"@", 0}, {"\\", 0}, {"^", 0}, {"`", 0}, {"|", 0}, {"~", 0},
	} {
		if l, at, e := Lex(x.src); len(l) > 0 || at != x.at || e != api.ErrText {
			t.Errorf("%.40q: %v %d %v", x.src, l, at, e)
		}
		check(t, x.src)
	}
}

// Every byte alone, after a name, after a number, before a name, within a name, and in a comment.
func TestLexAllBytes(t *testing.T) {
	for n := range 256 {
		b := string([]byte{byte(n)})
		_, at, e := Lex(b)
		begins := strings.Contains(letters+digits+signs+blanks, b)
		if at != 0 || begins && e != api.OK || !begins && e != api.ErrText {
			t.Errorf("%q %d %v", b, at, e)
		}
		for _, s := range []string{b, "a" + b, "7" + b, b + "a", b + "7", "a" + b + "a", "a" + b + "7", " " + b + " ", "/" + b, "//" + b, "//" + b + "\na", b + b} {
			check(t, s)
		}
	}
}

func TestLexAllShortSources(t *testing.T) {
	alphabet := "aZ_09 \n/$;"
	var all func(s string)
	all = func(s string) {
		check(t, s)
		if len(s) == 5 {
			return
		}
		for i := range len(alphabet) {
			all(s + alphabet[i:i+1])
		}
	}
	all("")
}

func TestLexLongerSources(t *testing.T) {
	many := letters + digits + signs + blanks + "_"
	for i := range 3000 {
		check(t, generated(i%50, i, many))
		check(t, generated(i%50, i, many+many+many+many+many+"$"))
		check(t, generated(i%80, i, "abcdefgh0123456789_"+many))
		check(t, generated(i%80, i, "0011112   "))
	}
	for i, s := range []string{many, "a ", "1;", "//\n", "a", "a\n//", ";", "0", "1 ", "0 "} {
		check(t, generated(65536, i, s))
	}
}

func TestLexOfAnyBytes(t *testing.T) {
	for n := range 400 {
		var b bytes.Buffer
		for i := range n {
			b.WriteByte(byte(i*i*31 + n*17 + i*n))
		}
		check(t, b.String())
		check(t, "//"+b.String())
	}
}

// The length is looked at before the source is, and in bytes.
func TestLexLongestSources(t *testing.T) {
	for _, x := range []struct {
		src string
		at  int
		e   api.Errno
		n   int
	}{
		{strings.Repeat(" ", 65536), 0, api.OK, 0},
		{strings.Repeat(" ", 65537), 0, api.ErrLimit, 0},
		{strings.Repeat(";", 65536), 0, api.OK, 65536},
		{strings.Repeat(";", 65537), 0, api.ErrLimit, 0},
		{strings.Repeat("$", 65536), 0, api.ErrText, 0},
		{strings.Repeat("$", 65537), 0, api.ErrLimit, 0},
		{strings.Repeat(" ", 65535) + "$", 65535, api.ErrText, 0},
		{strings.Repeat(" ", 65535) + "a", 0, api.OK, 1},
		{"//" + strings.Repeat("\xff", 65534), 0, api.OK, 0},
		{"//" + strings.Repeat("\xff", 65535), 0, api.ErrLimit, 0},
		{"//" + strings.Repeat("é", 32767), 0, api.OK, 0},
		{"//" + strings.Repeat("é", 32768), 0, api.ErrLimit, 0},
		{strings.Repeat("a", 65536), 0, api.ErrText, 0},
		{strings.Repeat("1", 65536), 0, api.ErrText, 0},
		{strings.Repeat("a", 1<<20), 0, api.ErrLimit, 0},
	} {
		l, at, e := Lex(x.src)
		if at != x.at || e != x.e || len(l) != x.n {
			t.Errorf("%.10q (%d): %d %v %d", x.src, len(x.src), at, e, len(l))
		}
	}
}

// P3.2

func TestText(t *testing.T) {
	for _, x := range []struct {
		l    []api.Token
		want string
	}{
		{nil, ""},
		{[]api.Token{}, ""},
		{[]api.Token{word("a", 0)}, "a"},
		{[]api.Token{word("a", 0), mrk("=", 1), num(1, 2)}, "a = 1"},
		{[]api.Token{mrk("/", 0), mrk("/", 0)}, "/ /"},
		{[]api.Token{num(0, -1), num(1<<40, math.MinInt), word("work", math.MaxInt)}, "0 1099511627776 work"},
		{[]api.Token{num(10, 0), num(7, 0)}, "10 7"},
	} {
		if s, e := Text(x.l); s != x.want || e != api.OK {
			t.Errorf("%v: %q %v", x.l, s, e)
		}
	}
	if s, e := Text(slices.Repeat([]api.Token{mrk(";", 0)}, 100000)); e != api.OK || s != strings.TrimSpace(strings.Repeat("; ", 100000)) {
		t.Error("a text that is longer than a source", len(s), e)
	}
}

func TestTextOfValidTokens(t *testing.T) {
	for n := range 256 {
		b := string([]byte{byte(n)})
		isLetter, isSign := strings.Contains(letters, b), strings.Contains(signs, b)
		for kind := -1; kind <= 5; kind++ {
			s, e := Text([]api.Token{{Kind: kind, Text: b, At: n}})
			ok := kind == api.NameT && isLetter || kind == api.SignT && isSign
			if ok && (s != b || e != api.OK) || !ok && (s != "" || e != api.ErrText) {
				t.Errorf("%d %q: %q %v", kind, b, s, e)
			}
		}
	}
}

func TestTextOfWrongTokens(t *testing.T) {
	for i, x := range []api.Token{
		{}, {At: 3}, {N: 1}, {Text: "a"}, {Text: ";"}, {Kind: -1, Text: "a"}, {Kind: 4, Text: "a"}, {Kind: 4, Text: ";"}, {Kind: 4, N: 1}, {Kind: math.MaxInt, N: 1}, {Kind: math.MinInt, Text: "a"},
		word("", 0), word("1", 0), word("_", 0), word("a b", 0), word(" a", 0), word("a ", 0), word("a-b", 0), word("é", 0), word("a\xff", 0), word(";", 0), word("a\n", 0), word(strings.Repeat("q", 33), 0),
		{Kind: api.NameT, Text: "a", N: 1}, {Kind: api.NameT, Text: "a", N: -1}, {Kind: api.NameT, N: 1},
		num(-1, 0), num(1<<40+1, 0), num(math.MaxInt, 0), num(math.MinInt, 0), {Kind: api.NumberT, Text: "1", N: 1}, {Kind: api.NumberT, Text: "1"}, {Kind: api.NumberT, Text: " "},
		mrk("", 0), mrk("a", 0), mrk("1", 0), mrk("_", 0), mrk(" ", 0), mrk("\n", 0), mrk("//", 0), mrk("{}", 0), mrk("; ", 0), mrk("$", 0), mrk("\"", 0), mrk("\x80", 0), mrk("×", 0), {Kind: api.SignT, Text: ";", N: 1}, {Kind: api.SignT, Text: ";", N: -1},
	} {
		for k, l := range [][]api.Token{{x}, {word("a", 0), x}, {x, num(1, 0)}, {mrk("(", 0), x, mrk(")", 0)}} {
			if s, e := Text(l); s != "" || e != api.ErrText {
				t.Error(i, k, s, e)
			}
		}
	}
}

func TestSame(t *testing.T) {
	l := [][]api.Token{
		nil, {{}}, {{}, {}}, {{Kind: 9, Text: "x", N: 4}}, {{Kind: 9, Text: "x", N: 5}}, {{Kind: -9, Text: "x", N: 4}}, {{Kind: 9, Text: "X", N: 4}},
		{word("a", 0)}, {word("b", 0)}, {word("ab", 0)}, {num(0, 0)}, {num(1, 0)}, {num(math.MinInt, 0)}, {mrk(";", 0)}, {mrk("a", 0)}, {{Kind: api.NumberT, Text: "1", N: 1}}, {word("", 0)}, {mrk("", 0)},
		{word("a", 0), num(1, 0)}, {num(1, 0), word("a", 0)}, {word("a", 0), num(2, 0)}, {word("a", 0), num(1, 0), mrk(";", 0)}, {word("b", 0), num(1, 0), mrk(";", 0)}, {word("a", 0), num(1, 0), mrk(",", 0)},
	}
	for i, a := range l {
		for k, b := range l {
			for _, n := range []int{0, 1, -7, math.MaxInt} {
				if Same(a, shifted(b, n)) != (i == k) || Same(shifted(a, n), b) != (i == k) {
					t.Error(i, k, n)
				}
			}
		}
	}
	if !Same(nil, []api.Token{}) || !Same([]api.Token{}, nil) {
		t.Error("nil and empty")
	}
}

func TestName(t *testing.T) {
	for s, want := range map[string]bool{
		"": false, "B_12": true, "_12": false, "a": true, "Z": true, "z9": true, "a_": true, "a__": true, "9": false, "9a": false, "_": false, "a b": false, " a": false, "a ": false, "a-": false, "a.b": false,
		"work": true, "a\x00": false, "a\n": false, "é": false, "aé": false, "a\xff": false, "a\u0661": false, "//": false, "a//": false, ";": false,
		strings.Repeat("q", 31): true, strings.Repeat("q", 32): true, strings.Repeat("q", 33): false, "q" + strings.Repeat("9", 31): true, "q" + strings.Repeat("_", 32): false, strings.Repeat("q", 1<<20): false,
		strings.Repeat("q", 31) + "é": false, strings.Repeat("q", 30) + "é": false,
	} {
		if Name(s) != want {
			t.Errorf("%.40q", s)
		}
	}
	for n := range 256 {
		b := string([]byte{byte(n)})
		if Name(b) != strings.Contains(letters, b) || Name("a"+b) != strings.Contains(letters+digits+"_", b) || Name("a"+b+"a") != Name("a"+b) {
			t.Errorf("%q", b)
		}
	}
}

// P3.3

func TestLexOfText(t *testing.T) {
	for _, s := range sources() {
		l, _, _ := Lex(s)
		text, e := Text(l)
		again, at, f := Lex(text)
		if e != api.OK || at != 0 || f != api.OK || !Same(l, again) {
			t.Errorf("%q %q %v %v", s, text, e, f)
		}
	}
	var l []api.Token
	for k := range 41 {
		l = append(l, num(1<<k, 3), num(1<<k-1, 2), mrk(signs[k%16:k%16+1], 1), word(strings.Repeat("a", k%32+1), 0))
	}
	text, e := Text(l)
	if again, _, f := Lex(text); e != api.OK || f != api.OK || !Same(l, again) {
		t.Error(text, e, f)
	}
}

func TestPlaces(t *testing.T) {
	for _, s := range sources() {
		l, _, _ := Lex(s)
		last := -1
		for _, x := range l {
			text, e := Text([]api.Token{x})
			if e != api.OK || x.At <= last || !strings.HasPrefix(s[x.At:], text) {
				t.Errorf("%q: %v", s, x)
			}
			last = x.At
		}
	}
}

func TestTwoSources(t *testing.T) {
	all := sources()
	for _, a := range all {
		for _, b := range all {
			k, _, _ := Lex(a)
			l, _, _ := Lex(b)
			want := slices.Concat(k, shifted(l, len(a)+1))
			if both, at, e := Lex(a + "\n" + b); at != 0 || e != api.OK || !slices.Equal(both, want) {
				t.Fatalf("%q %q: %v %d %v", a, b, both, at, e)
			}
		}
	}
	half := strings.Repeat("a1;", 10922)
	both, _, e := Lex(half + "\n" + half + "//")
	if l, _, f := Lex(half); e != api.OK || f != api.OK || len(half)*2+3 != 65535 || !slices.Equal(both, append(l, shifted(l, len(half)+1)...)) {
		t.Error(e, f)
	}
}

func TestWhiteSpaceAndCommentsAreNoTokens(t *testing.T) {
	for i := range 300 {
		blank := generated(i%40, i, blanks) + "//" + generated(i%50, i, letters+digits+signs+"$_\r\xff") + "\n"
		if l, at, e := Lex(blank); len(l) > 0 || at != 0 || e != api.OK {
			t.Errorf("%q: %v %d %v", blank, l, at, e)
		}
		want := []api.Token{word("a", len(blank)), mrk("(", 2*len(blank)+1), num(5, 3*len(blank)+2)}
		if l, _, e := Lex(blank + "a" + blank + "(" + blank + "5" + blank); e != api.OK || !slices.Equal(l, want) {
			t.Errorf("%q: %v %v", blank, l, e)
		}
	}
}

func TestSourceBeforeError(t *testing.T) {
	found := 0
	for i := range 5000 {
		s := generated(i%60, i, letters+digits+signs+blanks+"_ $ ")
		_, at, e := Lex(s)
		if e != api.ErrText {
			continue
		}
		found++
		if _, place, e := Lex(s[:at]); place != 0 || e != api.OK {
			t.Errorf("%q %d: %d %v", s, at, place, e)
		}
	}
	if found < 1000 {
		t.Error(found)
	}
}

// R2: arguments stay as they are, and results do not change afterwards.
func TestPurity(t *testing.T) {
	src := "a = 1; // b\nc"
	first, _, _ := Lex(src)
	kept := slices.Clone(first)
	second, _, _ := Lex(src)
	clear(second)
	Lex("z $")
	if !slices.Equal(first, kept) {
		t.Error("Lex", first)
	}
	all := append(slices.Clone(first), word("behind", 0))
	old := slices.Clone(all)
	s, _ := Text(all[:2])
	Same(all[:2], all[1:])
	if !slices.Equal(all, old) || s != "a =" {
		t.Error("Text and Same", all, s)
	}
}
