package sign

import (
	"testing"

	"kinesphere/api"
	"kinesphere/field"
)

// check compares Verify with the model.
func check(t *testing.T, key int, b []byte, s api.Sig) (ok bool) {
	t.Helper()
	ok = Verify(key, b, s)
	if ok != wantedRight(key, b, s) {
		t.Errorf("%d, %q and %v: got %v", key, b, s, ok)
	}
	return ok
}

// P11.1: signatures with other nonces than those of Sign are right, too, and so are ones for the key 1, which has no secret.
func TestMade(t *testing.T) {
	r := random(4)
	for _, secret := range append(secrets(r, 10), 0) {
		for _, k := range []int{0, 1, 2, api.Q / 2, api.Q - 2, api.Q - 1, r.IntN(api.Q)} {
			for _, b := range texts(r, 3) {
				if s := made(secret, k, keyOf(secret), b); !check(t, keyOf(secret), b, s) {
					t.Errorf("%d, %d and %q: %v is not right", secret, k, b, s)
				}
			}
		}
	}
}

// P11.1: found by a search through thousands of millions of texts, for the key 1024.
func TestCorners(t *testing.T) {
	for _, x := range []struct {
		text string
		s    api.Sig
	}{
		{"20d02401", api.Sig{E: 0, S: 0}},
		{"01c6c78c", api.Sig{E: 0, S: api.Q - 1}},
		{"0ba8e9cd", api.Sig{E: api.Q - 1, S: 0}},
		{"e5a70ce6", api.Sig{E: api.Q - 1, S: api.Q - 1}},
	} {
		b := []byte(x.text)
		if !check(t, 1024, b, x.s) {
			t.Errorf("%s: %v is not right", x.text, x.s)
		}
		for _, d := range []int{1, -1, api.Q, -api.Q, 2 * api.Q, 1 << 32, 1 << 62, least} {
			for i, s := range []api.Sig{{E: x.s.E + d, S: x.s.S}, {E: x.s.E, S: x.s.S + d}, {E: x.s.E + d, S: x.s.S + d}} {
				if check(t, 1024, b, s) {
					t.Errorf("%s, %d: %v is right", x.text, i, s)
				}
			}
		}
	}
}

// P11.1: a right signature is not right for anything else.
func TestChanged(t *testing.T) {
	r := random(5)
	for _, secret := range secrets(r, 30) {
		b := bytesOf(r, 1+r.IntN(40))
		key, s := keyOf(secret), signed(t, secret, b)
		changed := append([]byte{}, b...)
		changed[r.IntN(len(b))] ^= 1 << r.IntN(8)
		for _, x := range [][]byte{nil, changed, b[1:], b[:len(b)-1], append(b[:len(b):len(b)], 0), append([]byte{0}, b...)} {
			if check(t, key, x, s) {
				t.Errorf("%d: %v is right for %q and for %q", secret, s, b, x)
			}
		}
		for _, x := range []int{1, keyOf(secret + 1), keyOf(-secret), api.P - key, key + api.P, key - api.P, -key, secret, key + 1, key - 1, 0, api.P - 1, r.IntN(api.P)} {
			if check(t, x, b, s) {
				t.Errorf("%d: %v is right for the key %d", secret, s, x)
			}
		}
		for d := 1; d != 0; d <<= 1 {
			for _, x := range []api.Sig{{E: s.E ^ d, S: s.S}, {E: s.E, S: s.S ^ d}, {E: s.E + d, S: s.S}, {E: s.E, S: s.S + d}, {E: s.E - d, S: s.S}, {E: s.E, S: s.S - d}, {E: s.S, S: s.E}, {E: -s.E, S: s.S}, {E: s.E, S: -s.S}} {
				if check(t, key, b, x) {
					t.Errorf("%d: %v and %v are right", secret, s, x)
				}
			}
		}
	}
}

// P11.4: what is congruent to right numbers is not right.
func TestNumbersOutside(t *testing.T) {
	r := random(6)
	for _, secret := range secrets(r, 30) {
		b := bytesOf(r, r.IntN(40))
		key, s := keyOf(secret), signed(t, secret, b)
		for _, n := range []int{1, 2, 3, -1, -2, -3, 1 << 32, -1 << 32, greatest/api.Q - 1, 1 - greatest/api.Q} {
			for _, x := range []api.Sig{{E: s.E + n*api.Q, S: s.S}, {E: s.E, S: s.S + n*api.Q}, {E: s.E + n*api.Q, S: s.S + n*api.Q}} {
				if check(t, key, b, x) {
					t.Errorf("%d: %v is right", secret, x)
				}
			}
		}
		for _, n := range edges() {
			for _, x := range []api.Sig{{E: n, S: s.S}, {E: s.E, S: n}} {
				if check(t, key, b, x) && x != s {
					t.Errorf("%d: %v is right", secret, x)
				}
			}
		}
	}
}

// P11.4: for numbers that are congruent to keys, or to their negatives, E and S are made as for the key, so that only the key is wrong.
func TestNoElements(t *testing.T) {
	r := random(7)
	even := 0
	for _, secret := range append(secrets(r, 30), 0) {
		key := keyOf(secret)
		for _, x := range []int{api.P - key, key + api.P, key - api.P, -key, key + 2*api.P, key + api.P<<32, 2*api.P - key} {
			for _, b := range texts(r, 5) {
				s := made(secret, 1+r.IntN(api.Q-1), x, b)
				if check(t, x, b, s) {
					t.Errorf("%v is right for %d", s, x)
				}
				if s.E%2 == 0 {
					even++
				}
			}
		}
	}
	// The power of a negative to an even number is that of the key.
	if even < 1000 {
		t.Errorf("got %d signatures with an even E", even)
	}
	for _, x := range []int{0, api.P, -api.P, 2 * api.P} {
		for _, b := range texts(r, 5) {
			for _, point := range []int{0, 1} {
				s := api.Sig{E: wantedChallenge(point, x, b), S: r.IntN(api.Q)}
				if check(t, x, b, s) || check(t, x, b, api.Sig{E: s.E}) {
					t.Errorf("%v is right for %d", s, x)
				}
			}
		}
	}
}

// P11.1, P11.4: everything is accepted.
func TestEverything(t *testing.T) {
	keys := append(edges(), 3, 4, 5, 1024, api.P-6)
	for _, key := range keys {
		for _, n := range edges() {
			for _, m := range []int{least, -1, 0, 1, 7, api.Q - 1, api.Q, greatest, n} {
				check(t, key, nil, api.Sig{E: n, S: m})
				check(t, key, []byte("b"), api.Sig{E: m, S: n})
			}
		}
	}
}

// found returns the secret that two signatures with one point give away.
func found(t *testing.T, a, b api.Sig) int {
	t.Helper()
	below, e := field.Inverse(a.E - b.E)
	if e != api.OK {
		t.Errorf("%v and %v have one E", a, b)
	}
	return field.Mul(a.S-b.S, below)
}

// P11.3
func TestOnePoint(t *testing.T) {
	r := random(8)
	for _, secret := range append(secrets(r, 40), 0) {
		key := keyOf(secret)
		for _, k := range []int{0, 1, api.Q - 1, r.IntN(api.Q)} {
			l := texts(r, 0)
			first := made(secret, k, key, l[0])
			for _, b := range l[1:] {
				s := made(secret, k, key, b)
				if !Verify(key, l[0], first) || !Verify(key, b, s) || wantedPoint(key, s) != keyOf(k) || wantedPoint(key, first) != keyOf(k) {
					t.Errorf("%d: %v and %v", secret, first, s)
				}
				if n := found(t, s, first); n != secret {
					t.Errorf("%v and %v: the secret is %d, not %d", first, s, secret, n)
				}
			}
		}
	}
}

// P11.3: these texts, found by a search, are signed with the point G by the secret 5, the first two because the hash 0 counts as 1.
func TestOnePointOfSign(t *testing.T) {
	l := []string{"1e42cf04", "38ea3fee", "17d54e78", "370361c0", "516b0d00"}
	for i, x := range l {
		s := signed(t, 5, []byte(x))
		if !Verify(1024, []byte(x), s) || wantedPoint(1024, s) != api.G {
			t.Errorf("%s: %v has the point %d", x, s, wantedPoint(1024, s))
		}
		for _, y := range l[:i] {
			if n := found(t, s, signed(t, 5, []byte(y))); n != 5 {
				t.Errorf("%s and %s: the secret is %d", x, y, n)
			}
		}
	}
}

// P11.3: of ordinary texts and secrets, no two have one point.
func TestPoints(t *testing.T) {
	r := random(9)
	seen := map[int]bool{}
	n := 0
	for _, secret := range secrets(r, 30) {
		for _, b := range texts(r, 0) {
			seen[wantedPoint(keyOf(secret), signed(t, secret, b))] = true
			n++
		}
	}
	if len(seen) != n {
		t.Errorf("%d signatures have %d points", n, len(seen))
	}
}
