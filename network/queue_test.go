package network

import (
	"math"
	"slices"
	"testing"

	"kinesphere/api"
)

// P6.2

// The packet at each place of queues of several lengths.
func TestDeliverLoseRepeat(t *testing.T) {
	for _, many := range []int{1, 2, 3, 7, 600, 4096} {
		n := api.Net{Queue: packets(many), Apart: [][2]int{{0, 22}, {1, 22}}}
		old := cloned(n)
		for at := 0; at < many; at += 1 + many/50 {
			without := api.Net{Queue: slices.Delete(packets(many), at, at+1), Apart: old.Apart}
			want := old.Queue[at]
			if slices.Contains(n.Apart, [2]int{min(want.From, want.To), max(want.From, want.To)}) {
				want = api.Packet{}
			}
			p, x, e := Deliver(n, at)
			if e != api.OK || !samePacket(p, want) || !same(x, without) || Check(x) != api.OK {
				t.Error(many, at, "Deliver", p, len(x.Queue), e)
			}
			x, e = Lose(n, at)
			if e != api.OK || !same(x, without) || Check(x) != api.OK {
				t.Error(many, at, "Lose", len(x.Queue), e)
			}
			x, e = Repeat(n, at)
			if many == 4096 {
				if e != api.ErrLimit || !isZero(x) {
					t.Error(many, at, "Repeat", len(x.Queue), e)
				}
			} else if e != api.OK || !same(x, api.Net{Queue: append(packets(many), old.Queue[at]), Apart: old.Apart}) || Check(x) != api.OK {
				t.Error(many, at, "Repeat", len(x.Queue), e)
			}
			if !same(n, old) {
				t.Fatal(many, at, "changed")
			}
		}
	}
}

// That there is no such packet is said before it is said that there are too many.
func TestNoSuchPacket(t *testing.T) {
	for _, many := range []int{0, 1, 2, 4095, 4096} {
		n := api.Net{Queue: packets(many), Apart: [][2]int{{3, 4}}}
		for _, at := range []int{-1, -2, many, many + 1, 4097, 1 << 40, math.MinInt, math.MaxInt} {
			p, x, e := Deliver(n, at)
			y, f := Lose(n, at)
			z, g := Repeat(n, at)
			if e != api.ErrArg || f != api.ErrArg || g != api.ErrArg || !isZeroPacket(p) || !isZero(x) || !isZero(y) || !isZero(z) {
				t.Error(many, at, e, f, g)
			}
		}
	}
}

func TestRepeatUntilFull(t *testing.T) {
	n := api.Net{Queue: packets(4095)}
	x, e := Repeat(n, 4094)
	if e != api.OK || len(x.Queue) != 4096 || !samePacket(x.Queue[4095], n.Queue[4094]) || Check(x) != api.OK {
		t.Fatal(len(x.Queue), e)
	}
	if y, e := Repeat(x, 0); e != api.ErrLimit || !isZero(y) {
		t.Error(len(y.Queue), e)
	}
	y, e := Lose(x, 0)
	if e != api.OK {
		t.Fatal(e)
	}
	if z, e := Repeat(y, 0); e != api.OK || len(z.Queue) != 4096 || !samePacket(z.Queue[4095], n.Queue[1]) {
		t.Error(len(z.Queue), e)
	}
}

func TestRepeatedPacketIsDeliveredTwice(t *testing.T) {
	n := api.Net{Queue: []api.Packet{packet(3, 1, "a"), packet(1, 3, "b"), packet(3, 1, "c")}}
	n, e := Repeat(n, 1)
	if e != api.OK || data(n) != "abcb" {
		t.Fatal(data(n), e)
	}
	for i, want := range []api.Packet{packet(1, 3, "b"), packet(3, 1, "a"), packet(3, 1, "c"), packet(1, 3, "b")} {
		p, x, e := Deliver(n, []int{1, 0, 0, 0}[i])
		if e != api.OK || !samePacket(p, want) {
			t.Error(i, p, e)
		}
		n = x
	}
	if !isZero(n) {
		t.Error(n)
	}
}

// What is cut off arrives as a zero packet, in both directions; all others arrive as they are.
func TestDeliverOverCutLinks(t *testing.T) {
	for _, cut := range pairs(24) {
		n := api.Net{Apart: [][2]int{cut}}
		for a := range 24 {
			for b := range 24 {
				if a == b {
					continue
				}
				n.Queue = []api.Packet{packet(5, 6, "x"), packet(a, b, "y"), packet(6, 5, "z")}
				p, x, e := Deliver(n, 1)
				apart := a == cut[0] && b == cut[1] || a == cut[1] && b == cut[0]
				if e != api.OK || apart != isZeroPacket(p) || !apart && !samePacket(p, packet(a, b, "y")) {
					t.Fatal(cut, a, b, p, e)
				}
				if !same(x, api.Net{Queue: []api.Packet{packet(5, 6, "x"), packet(6, 5, "z")}, Apart: [][2]int{cut}}) {
					t.Fatal(cut, a, b, x)
				}
			}
		}
	}
}

// Only delivering asks whether a link is cut.
func TestLoseAndRepeatOverCutLinks(t *testing.T) {
	n := api.Net{Queue: []api.Packet{packet(2, 1, "a"), packet(1, 2, "b"), packet(1, 3, "c")}, Apart: [][2]int{{1, 2}}}
	x, e := Lose(n, 0)
	if e != api.OK || data(x) != "bc" || !slices.Equal(x.Apart, n.Apart) {
		t.Error(x, e)
	}
	x, e = Repeat(n, 1)
	if e != api.OK || data(x) != "abcb" || !samePacket(x.Queue[3], packet(1, 2, "b")) || !slices.Equal(x.Apart, n.Apart) {
		t.Error(x, e)
	}
}

// What is taken from the beginning of a queue does not overwrite the queue before.
func TestQueuesBeforeAreKept(t *testing.T) {
	n := api.Net{Queue: append(make([]api.Packet, 0, 16), packets(5)...)}
	old := cloned(n)
	for at := range 5 {
		_, x, e := Deliver(n, at)
		y, f := Lose(n, at)
		if e != api.OK || f != api.OK {
			t.Fatal(at, e, f)
		}
		before, was := data(x), data(y)
		for _, m := range []api.Net{x, y} {
			for i := range m.Queue {
				if _, e := Lose(m, i); e != api.OK {
					t.Fatal(at, i, e)
				}
			}
			if _, e := Send(m, packet(1, 2, "new")); e != api.OK {
				t.Fatal(at, e)
			}
			if _, e := Repeat(m, 0); e != api.OK {
				t.Fatal(at, e)
			}
			// A caller may go on with what it got.
			_ = append(m.Queue, packet(1, 2, "more"))
		}
		if !same(n, old) || data(x) != before || data(y) != was {
			t.Error(at, data(n), data(x), data(y))
		}
	}
}
