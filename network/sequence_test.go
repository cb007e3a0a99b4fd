package network

import (
	"slices"
	"strings"
	"testing"

	"kinesphere/api"
)

// P6.4: model is links that are described in another way: a letter for each packet that is on its way, and a matrix of what is cut.
type model struct {
	letters string
	cut     matrix
	// got is the letters that have arrived, with a dash for each one that was cut off.
	got string
}

// parties are those between which a letter is sent.
func parties(letter byte) (from, to int) {
	switch letter % 4 {
	case 0:
		return 0, 1
	case 1:
		return 1, 0
	case 2:
		return 23, 1
	}
	return 0, 23
}

func letter(c byte) api.Packet {
	from, to := parties(c)
	return packet(from, to, string(rune(c)))
}

// take removes a letter.
func (m *model) take(at int) (c byte, ok bool) {
	if at < 0 || at >= len(m.letters) {
		return 0, false
	}
	c = m.letters[at]
	m.letters = m.letters[:at] + m.letters[at+1:]
	return c, true
}

func (m *model) deliver(at int) bool {
	c, ok := m.take(at)
	if !ok {
		return false
	}
	if from, to := parties(c); m.cut[from][to] {
		c = '-'
	}
	m.got += string(rune(c))
	return true
}

func (m *model) lose(at int) bool {
	_, ok := m.take(at)
	return ok
}

func (m *model) repeat(at int) bool {
	if at < 0 || at >= len(m.letters) {
		return false
	}
	m.letters += m.letters[at : at+1]
	return true
}

// agrees compares links with their model.
func (m *model) agrees(n api.Net) bool {
	if Check(n) != api.OK || data(n) != m.letters || !slices.Equal(n.Apart, m.cut.apart()) {
		return false
	}
	for i, p := range n.Queue {
		if !samePacket(p, letter(m.letters[i])) {
			return false
		}
	}
	return true
}

// things is what step can do.
const things = 13

// step does one of several things to links and to their model. It returns the links after it.
func step(t *testing.T, n api.Net, m *model, what int, c byte) api.Net {
	t.Helper()
	var x api.Net
	var e api.Errno
	var ok bool
	last := len(m.letters) - 1
	switch what {
	case 0, 1, 2:
		x, e = Send(n, letter(c))
		m.letters, ok = m.letters+string(rune(c)), true
	case 3, 4:
		at := (what - 3) * last
		got := m.got
		ok = m.deliver(at)
		var p api.Packet
		p, x, e = Deliver(n, at)
		arrived(t, p, m.got[len(got):])
	case 5, 6:
		at := (what - 5) * last
		x, e = Lose(n, at)
		ok = m.lose(at)
	case 7, 8:
		at := (what - 7) * last
		x, e = Repeat(n, at)
		ok = m.repeat(at)
	default:
		l := [][2]int{{0, 1}, {1, 23}}[what&1]
		on := what < 11
		x, e = Cut(n, l[0], l[1], on)
		m.cut.set(l[0], l[1], on)
		ok = true
	}
	if ok != (e == api.OK) || !ok && (e != api.ErrArg || !isZero(x)) {
		t.Fatal(what, ok, e)
	}
	if !ok {
		return n
	}
	return x
}

// arrived checks what was delivered: a letter, a dash for what was cut off, or nothing.
func arrived(t *testing.T, p api.Packet, want string) {
	t.Helper()
	q := api.Packet{}
	if want != "" && want != "-" {
		q = letter(want[0])
	}
	if !samePacket(p, q) {
		t.Fatal(p, want)
	}
}

// All sequences of up to five of thirteen things that are done to links. What is done later changes no links before.
func TestAllShortSequences(t *testing.T) {
	var all func(n api.Net, m model, done []int)
	all = func(n api.Net, m model, done []int) {
		if !m.agrees(n) {
			t.Fatal(done, data(n), n.Apart, m.letters, m.cut.apart())
		}
		if len(done) == 5 {
			return
		}
		for what := range things {
			after := m
			x := step(t, n, &after, what, byte('a'+4*len(done)+what%4))
			all(x, after, append(slices.Clip(done), what))
		}
		if !m.agrees(n) {
			t.Fatal(done, "changed", data(n), n.Apart)
		}
	}
	all(New(), model{}, nil)
}

func TestLongSequences(t *testing.T) {
	for seed := range 100 {
		x := uint32(seed)*2654435761 + 1
		n, m := New(), model{}
		sent := ""
		for i := range 400 {
			x = x*1664525 + 1013904223
			what, c := int(x>>16)%things, byte('A'+(x>>8)%50)
			if what < 3 {
				sent += string(rune(c))
			}
			n = step(t, n, &m, what, c)
			if !m.agrees(n) {
				t.Fatal(seed, i)
			}
		}
		if strings.Trim(m.got, sent+"-") != "" {
			t.Error(seed, "arrived without having been sent", m.got, sent)
		}
	}
}

// Without losses, repetitions and cuts, each packet is delivered once, in whatever order: all orders of six packets, two of which
// are equal.
func TestAllOrders(t *testing.T) {
	n := New()
	for _, c := range "abcdea" {
		x, e := Send(n, letter(byte(c)))
		if e != api.OK {
			t.Fatal(e)
		}
		n = x
	}
	orders := 0
	var all func(n api.Net, got string)
	all = func(n api.Net, got string) {
		if len(n.Queue) == 0 {
			orders++
			b := []byte(got)
			slices.Sort(b)
			if string(b) != "aabcde" {
				t.Fatal(got)
			}
			return
		}
		for at := range n.Queue {
			p, x, e := Deliver(n, at)
			if e != api.OK || len(p.Data) != 1 || !samePacket(p, letter(p.Data[0])) {
				t.Fatal(got, at, p, e)
			}
			all(x, got+string(p.Data))
		}
	}
	all(n, "")
	if orders != 720 {
		t.Error(orders)
	}
}

// Also as many packets as links can have.
func TestFullLinksAreEmptied(t *testing.T) {
	n := New()
	for i := range 4096 {
		x, e := Send(n, api.Packet{From: i % 24, To: (i + 5) % 24, Data: []byte{byte(i), byte(i >> 8)}})
		if e != api.OK {
			t.Fatal(i, e)
		}
		n = x
	}
	var seen [4096]bool
	for left := 4096; left > 0; left-- {
		p, x, e := Deliver(n, left*left%left+left*7%left)
		if e != api.OK || len(p.Data) != 2 {
			t.Fatal(left, p, e)
		}
		i := int(p.Data[0]) + int(p.Data[1])<<8
		if seen[i] || p.From != i%24 || p.To != (i+5)%24 {
			t.Fatal(left, i, p)
		}
		seen[i], n = true, x
	}
	if !isZero(n) {
		t.Error(len(n.Queue))
	}
}
