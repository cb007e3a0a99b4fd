package network

import (
	"math"
	"slices"
	"testing"

	"kinesphere/api"
)

// matrix tells of each two parties, in both orders, whether they are cut off from each other.
type matrix [24][24]bool

func (m *matrix) set(a, b int, on bool) { m[a][b], m[b][a] = on, on }

// apart is what Apart of links should be.
func (m *matrix) apart() (l [][2]int) {
	for a := range 24 {
		for b := a + 1; b < 24; b++ {
			if m[a][b] {
				l = append(l, [2]int{a, b})
			}
		}
	}
	return l
}

// P6.3

func TestCutOneLink(t *testing.T) {
	n := api.Net{Queue: packets(30)}
	for a := range 24 {
		for b := range 24 {
			if a == b {
				continue
			}
			x, e := Cut(n, a, b, true)
			if e != api.OK || !same(x, api.Net{Queue: n.Queue, Apart: [][2]int{{min(a, b), max(a, b)}}}) || Check(x) != api.OK {
				t.Fatal(a, b, x.Apart, e)
			}
			for _, on := range []bool{true, false} {
				again, e := Cut(x, a, b, on)
				back, f := Cut(x, b, a, on)
				want := n
				if on {
					want = x
				}
				if e != api.OK || f != api.OK || !same(again, want) || !same(back, want) {
					t.Fatal(a, b, on, again.Apart, back.Apart, e, f)
				}
			}
			if y, e := Cut(n, a, b, false); e != api.OK || !same(y, n) {
				t.Fatal(a, b, y.Apart, e)
			}
		}
	}
}

func TestCutOfWrongParties(t *testing.T) {
	for _, n := range []api.Net{New(), {Queue: packets(4096), Apart: pairs(24)}} {
		for _, w := range wrongParties() {
			for _, on := range []bool{true, false} {
				if x, e := Cut(n, w[0], w[1], on); e != api.ErrArg || !isZero(x) {
					t.Error(w, on, len(x.Apart), e)
				}
			}
		}
	}
	for _, w := range [][2]int{{-1, 24}, {24, -1}, {24, 25}, {-2, -1}, {math.MinInt, math.MaxInt}} {
		if x, e := Cut(New(), w[0], w[1], true); e != api.ErrArg || !isZero(x) {
			t.Error(w, x.Apart, e)
		}
	}
}

// Each link is put in at its place, and taken out from it, whatever else is cut.
func TestCutAmongOthers(t *testing.T) {
	all := pairs(24)
	for _, step := range []int{1, 2, 3, 7, 100} {
		var some [][2]int
		for i := 0; i < len(all); i += step {
			some = append(some, all[i])
		}
		n := api.Net{Queue: packets(3), Apart: some}
		old := cloned(n)
		for i, p := range all {
			var with, without [][2]int
			for k, q := range all {
				if k%step == 0 && k != i {
					without = append(without, q)
				}
				if k%step == 0 || k == i {
					with = append(with, q)
				}
			}
			x, e := Cut(n, p[1], p[0], true)
			y, f := Cut(n, p[0], p[1], false)
			if e != api.OK || f != api.OK || !same(x, api.Net{Queue: old.Queue, Apart: with}) || !same(y, api.Net{Queue: old.Queue, Apart: without}) {
				t.Fatal(step, p, x.Apart, y.Apart, e, f)
			}
			if !same(n, old) {
				t.Fatal(step, p, "changed")
			}
		}
	}
}

func TestLongSequencesOfCuts(t *testing.T) {
	for seed := range 20 {
		s := uint32(seed)*2654435761 + 1
		next := func(n int) int {
			s = s*1664525 + 1013904223
			return int(s>>16) % n
		}
		n, m := New(), matrix{}
		for i := range 600 {
			a, b, on := next(24), next(24), next(5) > seed%4
			x, e := Cut(n, a, b, on)
			if a == b {
				if e != api.ErrArg || !isZero(x) {
					t.Fatal(seed, i, a, b, e)
				}
				continue
			}
			m.set(a, b, on)
			if e != api.OK || !slices.Equal(x.Apart, m.apart()) || Check(x) != api.OK {
				t.Fatal(seed, i, a, b, on, x.Apart, e)
			}
			n = x
		}
	}
}

func TestCutAndMendAll(t *testing.T) {
	n := New()
	for i := range 276 {
		p := pairs(24)[i*5%276]
		n, _ = Cut(n, p[i%2], p[1-i%2], true)
	}
	if !slices.Equal(n.Apart, pairs(24)) {
		t.Fatal(n.Apart)
	}
	for i := range 276 {
		p := pairs(24)[i*7%276]
		n, _ = Cut(n, p[i%2], p[1-i%2], false)
	}
	if !isZero(n) {
		t.Error(n)
	}
}

// What was sent while a link was cut arrives after the link is mended.
func TestMendedLink(t *testing.T) {
	n, _ := Cut(New(), 4, 2, true)
	n, _ = Send(n, packet(4, 2, "a"))
	n, _ = Send(n, packet(2, 4, "b"))
	p, n, e := Deliver(n, 0)
	if e != api.OK || !isZeroPacket(p) || data(n) != "b" {
		t.Fatal(p, data(n), e)
	}
	n, _ = Cut(n, 2, 4, false)
	if p, n, e = Deliver(n, 0); e != api.OK || !samePacket(p, packet(2, 4, "b")) || !isZero(n) {
		t.Error(p, n, e)
	}
}
