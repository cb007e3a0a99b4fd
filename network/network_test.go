package network

import (
	"bytes"
	"math"
	"slices"
	"strings"
	"testing"

	"kinesphere/api"
)

func packet(from, to int, data string) api.Packet {
	return api.Packet{From: from, To: to, Data: []byte(data)}
}

// packets returns n packets with the data a, b and so on, between changing parties.
func packets(n int) (l []api.Packet) {
	for i := range n {
		l = append(l, packet(i%24, (i+1+i/24%23)%24, string(rune('a'+i%26))))
	}
	return l
}

// pairs returns all links between the parties below n, in order.
func pairs(n int) (l [][2]int) {
	for a := range n {
		for b := a + 1; b < n; b++ {
			l = append(l, [2]int{a, b})
		}
	}
	return l
}

// data returns the data of all packets, one after the other.
func data(n api.Net) string {
	var s strings.Builder
	for _, p := range n.Queue {
		s.Write(p.Data)
	}
	return s.String()
}

func samePacket(p, q api.Packet) bool {
	return p.From == q.From && p.To == q.To && bytes.Equal(p.Data, q.Data)
}

// same reports whether links are equal: nil and empty lists are.
func same(m, n api.Net) bool {
	return slices.EqualFunc(m.Queue, n.Queue, samePacket) && slices.Equal(m.Apart, n.Apart)
}

func isZero(n api.Net) bool { return same(n, api.Net{}) }

func isZeroPacket(p api.Packet) bool { return samePacket(p, api.Packet{}) }

// cloned returns links that share no memory with n.
func cloned(n api.Net) api.Net {
	n.Queue, n.Apart = slices.Clone(n.Queue), slices.Clone(n.Apart)
	for i, p := range n.Queue {
		n.Queue[i].Data = bytes.Clone(p.Data)
	}
	return n
}

// wrongParties are pairs of which at least one is no party, or which are one party.
func wrongParties() (l [][2]int) {
	for _, k := range []int{-1, 24, 25, 256, 1 << 32, math.MinInt, math.MaxInt} {
		l = append(l, [2]int{k, 0}, [2]int{0, k}, [2]int{k, 23}, [2]int{23, k}, [2]int{k, k})
	}
	for k := range 24 {
		l = append(l, [2]int{k, k})
	}
	return l
}

// validNets are links at the edges of what is valid.
func validNets() []api.Net {
	return []api.Net{
		{},
		{Queue: []api.Packet{}, Apart: [][2]int{}},
		{Queue: packets(1)},
		{Queue: packets(600), Apart: [][2]int{{0, 23}}},
		{Queue: packets(4095)},
		{Queue: packets(4096)},
		{Queue: packets(4096), Apart: pairs(24)},
		{Queue: []api.Packet{{From: 23, To: 0}, {From: 0, To: 23, Data: make([]byte, 1<<20)}, {From: 1, To: 0, Data: make([]byte, 1<<20)}}},
		{Queue: slices.Repeat([]api.Packet{packet(3, 4, "x")}, 100)},
		{Apart: [][2]int{{0, 1}}},
		{Apart: [][2]int{{22, 23}}},
		{Apart: [][2]int{{0, 22}, {0, 23}, {1, 2}, {5, 6}, {22, 23}}},
		{Apart: [][2]int{{0, 23}, {1, 2}}},
		{Apart: pairs(24)},
	}
}

// invalidPackets are packets that are just not valid, for each of the reasons.
func invalidPackets() (l []api.Packet) {
	for _, w := range wrongParties() {
		l = append(l, api.Packet{From: w[0], To: w[1]}, packet(w[0], w[1], "x"))
	}
	big := make([]byte, 1<<20+1)
	return append(l, api.Packet{}, api.Packet{From: 0, To: 1, Data: big}, api.Packet{From: 23, To: 22, Data: big}, api.Packet{From: 1, To: 1, Data: big})
}

// invalidNets are links that are just not valid, for each of the reasons.
func invalidNets() (l []api.Net) {
	l = append(l, api.Net{Queue: packets(4097)}, api.Net{Queue: packets(4097), Apart: pairs(24)}, api.Net{Queue: packets(10000)})
	for i, p := range invalidPackets() {
		l = append(l, api.Net{Queue: []api.Packet{p}}, api.Net{Queue: slices.Insert(packets(2), i%3, p), Apart: [][2]int{{0, 1}}})
	}
	l = append(l, api.Net{Queue: append(packets(4095), api.Packet{})}, api.Net{Queue: append(packets(4096), api.Packet{})})
	for _, w := range wrongParties() {
		l = append(l, api.Net{Apart: [][2]int{w}}, api.Net{Apart: [][2]int{w, {22, 23}}}, api.Net{Queue: packets(3), Apart: [][2]int{{0, 1}, w}})
	}
	for _, apart := range [][][2]int{
		{{1, 0}}, {{23, 0}}, {{23, 22}}, {{0, 1}, {2, 1}}, {{1, 0}, {1, 2}},
		{{0, 1}, {0, 1}}, {{0, 1}, {2, 3}, {2, 3}}, {{0, 2}, {0, 1}}, {{1, 2}, {0, 1}}, {{1, 2}, {0, 3}}, {{0, 1}, {0, 2}, {0, 1}},
		append(pairs(24), [2]int{22, 23}), append(pairs(24), [2]int{0, 1}),
	} {
		l = append(l, api.Net{Apart: apart}, api.Net{Queue: packets(4), Apart: apart})
	}
	return l
}

// P6.1

func TestNew(t *testing.T) {
	n := New()
	if !isZero(n) || Check(n) != api.OK {
		t.Error(n, Check(n))
	}
	if p, x, e := Deliver(n, 0); e != api.ErrArg || !isZeroPacket(p) || !isZero(x) {
		t.Error(p, x, e)
	}
}

func TestCheck(t *testing.T) {
	for i, n := range validNets() {
		if e := Check(n); e != api.OK {
			t.Error(i, e)
		}
	}
	for i, n := range invalidNets() {
		if e := Check(n); e != api.ErrNet {
			t.Error(i, e)
		}
	}
}

// Each pair of parties, and some that are none, as a packet and as a link.
func TestCheckOfAllPairs(t *testing.T) {
	for a := -2; a < 27; a++ {
		for b := -2; b < 27; b++ {
			parties := 0 <= a && a <= 23 && 0 <= b && b <= 23
			if e := Check(api.Net{Queue: []api.Packet{{From: a, To: b}}}); (e == api.OK) != (parties && a != b) {
				t.Error(a, b, "packet", e)
			}
			if e := Check(api.Net{Apart: [][2]int{{a, b}}}); (e == api.OK) != (parties && a < b) {
				t.Error(a, b, "link", e)
			}
		}
	}
}

// Two links are in order exactly if they stand in that order in the list of all.
func TestCheckOfTwoLinks(t *testing.T) {
	all := pairs(24)
	for i, a := range all {
		for k, b := range all {
			if e := Check(api.Net{Apart: [][2]int{a, b}}); (e == api.OK) != (i < k) {
				t.Fatal(a, b, e)
			}
		}
	}
}

// That links are not valid is said before anything is said about the other arguments.
func TestInvalidNets(t *testing.T) {
	for i, n := range invalidNets() {
		old := cloned(n)
		for _, p := range []api.Packet{packet(0, 1, "x"), packet(1, 1, "x")} {
			if x, e := Send(n, p); e != api.ErrNet || !isZero(x) {
				t.Error(i, p, "Send", e)
			}
		}
		for _, at := range []int{-1, 0, 1, 4095, 4096, 10000} {
			p, x, e := Deliver(n, at)
			y, f := Lose(n, at)
			z, g := Repeat(n, at)
			if e != api.ErrNet || f != api.ErrNet || g != api.ErrNet || !isZeroPacket(p) || !isZero(x) || !isZero(y) || !isZero(z) {
				t.Error(i, at, e, f, g)
			}
		}
		for _, on := range []bool{true, false} {
			for _, l := range [][2]int{{0, 1}, {1, 1}, {0, 24}} {
				if x, e := Cut(n, l[0], l[1], on); e != api.ErrNet || !isZero(x) {
					t.Error(i, l, on, "Cut", e)
				}
			}
		}
		if !same(n, old) {
			t.Error(i, "changed")
		}
	}
}

func TestSend(t *testing.T) {
	for i, n := range validNets() {
		if len(n.Queue) == 4096 {
			continue
		}
		for _, p := range []api.Packet{packet(0, 1, ""), packet(1, 0, "new"), packet(23, 22, "\x00"), {From: 5, To: 9, Data: make([]byte, 1<<20)}} {
			old := cloned(n)
			x, e := Send(n, p)
			if e != api.OK || !same(x, api.Net{Queue: append(cloned(n).Queue, p), Apart: n.Apart}) || Check(x) != api.OK || !same(n, old) {
				t.Error(i, p.From, p.To, len(p.Data), len(x.Queue), e)
			}
		}
		for k, p := range invalidPackets() {
			if x, e := Send(n, p); e != api.ErrNet || !isZero(x) {
				t.Error(i, k, e)
			}
		}
	}
}

// A packet is looked at before the length of the queue is.
func TestSendToFullLinks(t *testing.T) {
	for _, apart := range [][][2]int{nil, {{0, 1}}} {
		n, e := Send(api.Net{Queue: packets(4095), Apart: apart}, packet(2, 3, "last"))
		if e != api.OK || len(n.Queue) != 4096 || !samePacket(n.Queue[4095], packet(2, 3, "last")) {
			t.Fatal(len(n.Queue), e)
		}
		for _, p := range []api.Packet{packet(0, 1, ""), packet(2, 3, "x")} {
			if x, e := Send(n, p); e != api.ErrLimit || !isZero(x) {
				t.Error(p, len(x.Queue), e)
			}
		}
		for k, p := range invalidPackets() {
			if x, e := Send(n, p); e != api.ErrNet || !isZero(x) {
				t.Error(k, e)
			}
		}
	}
}

// Packets are sent over links that are cut as well.
func TestSendOverCutLinks(t *testing.T) {
	n := api.Net{Apart: [][2]int{{1, 2}}}
	for _, p := range []api.Packet{packet(1, 2, "a"), packet(2, 1, "b"), packet(1, 3, "c")} {
		x, e := Send(n, p)
		if e != api.OK {
			t.Fatal(p, e)
		}
		n = x
	}
	if data(n) != "abc" || !slices.Equal(n.Apart, [][2]int{{1, 2}}) {
		t.Error(n)
	}
}

// Two packets that are sent over the same links do not overwrite each other, also if the queue has room behind its packets.
func TestSendTwiceFromOneNet(t *testing.T) {
	n := api.Net{Queue: append(make([]api.Packet, 0, 8), packets(2)...)}
	x, e := Send(n, packet(1, 2, "x"))
	y, f := Send(n, packet(1, 2, "y"))
	z, g := Repeat(n, 0)
	if e != api.OK || f != api.OK || g != api.OK || data(n) != "ab" || data(x) != "abx" || data(y) != "aby" || data(z) != "aba" {
		t.Error(data(n), data(x), data(y), data(z), e, f, g)
	}
}

// A sender that uses its bytes again, and a receiver that changes what it got, do not change what is on its way.
func TestBytesOnTheirWay(t *testing.T) {
	p := packet(1, 2, "abc")
	n, e := Send(New(), p)
	if e != api.OK {
		t.Fatal(e)
	}
	p.Data[0] = 'x'
	n, e = Repeat(n, 0)
	if e != api.OK {
		t.Fatal(e)
	}
	for range 2 {
		q, x, e := Deliver(n, 0)
		if e != api.OK || !samePacket(q, packet(1, 2, "abc")) {
			t.Error(q, e)
		}
		q.Data[1] = 'y'
		n = x
	}
}
