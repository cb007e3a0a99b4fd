package sign

import (
	"bytes"
	"slices"
	"testing"

	"kinesphere/api"
)

// signed signs with a secret from 1 to Q - 1.
func signed(t *testing.T, secret int, b []byte) api.Sig {
	t.Helper()
	s, e := Sign(secret, b)
	if e != api.OK {
		t.Errorf("%d and %q: got the error %d", secret, b, e)
	}
	return s
}

// P11.1
func TestSign(t *testing.T) {
	r := random(1)
	for _, secret := range secrets(r, 40) {
		for _, b := range append(texts(r, 10), bytesOf(r, 127), bytesOf(r, 128), bytesOf(r, 300)) {
			if s := signed(t, secret, b); s != wantedSig(secret, b) {
				t.Errorf("%d and %q: got %v, not %v", secret, b, s, wantedSig(secret, b))
			}
		}
	}
	for _, n := range []int{55, 56, 63, 64, 65, 16383, 16384, api.MaxSource, 1 << 20} {
		if b := bytesOf(r, n); signed(t, 5, b) != wantedSig(5, b) {
			t.Errorf("%d bytes: got %v", n, signed(t, 5, b))
		}
	}
}

// P11.1: found by a search through thousands of millions of texts. The hash is that from which the nonce is made.
func TestRareNumbers(t *testing.T) {
	for _, x := range []struct {
		text string
		hash int
		s    api.Sig
	}{
		{"1e42cf04", 0, api.Sig{E: 60101918, S: 300509591}},
		{"38ea3fee", 0, api.Sig{E: 952948486, S: 469775275}},
		{"17d54e78", 1, api.Sig{E: 486045590, S: 282744373}},
		{"03170543", api.Q - 1, api.Sig{E: 661931316, S: 88431212}},
		{"10c43e26", 191066137, api.Sig{E: 0, S: 191066137}},
		{"2f0e262a", 892656882, api.Sig{E: api.Q - 1, S: 892656877}},
		{"46b543ff", 573837920, api.Sig{E: api.Q - 1, S: 573837915}},
		{"4c994778", 162401247, api.Sig{E: 611764824, S: 0}},
		{"21a8e07c", 427929562, api.Sig{E: 343910803, S: api.Q - 1}},
	} {
		b := []byte(x.text)
		if n := wantedNonce(5, b); n != x.hash {
			t.Errorf("%s: the hash is %d, not %d", x.text, n, x.hash)
		}
		if s := signed(t, 5, b); s != x.s || s != wantedSig(5, b) {
			t.Errorf("%s: got %v, not %v", x.text, s, x.s)
		}
		if !Verify(1024, b, x.s) {
			t.Errorf("%s: %v is not right", x.text, x.s)
		}
	}
}

// P11.1: the secrets from 1 to Q - 1, and no others that are congruent to them.
func TestSecrets(t *testing.T) {
	l := edges()
	for _, n := range []int{1, 2, 5, 1 << 20, api.Q / 2, api.Q - 2} {
		l = append(l, n, n+api.Q, n-api.Q, n+2*api.Q, -n, n+1<<32, n+1<<62)
	}
	for _, secret := range l {
		for _, b := range [][]byte{nil, []byte("b")} {
			s, e := Sign(secret, b)
			if secret >= 1 && secret <= api.Q-1 {
				if s != wantedSig(secret, b) || e != api.OK {
					t.Errorf("%d: got %v, %d", secret, s, e)
				}
			} else if s != (api.Sig{}) || e != api.ErrKey {
				t.Errorf("%d: got %v, %d", secret, s, e)
			}
		}
	}
}

// P11.2
func TestSignedIsRight(t *testing.T) {
	r := random(2)
	for _, secret := range secrets(r, 200) {
		for _, b := range append(texts(r, 3), bytesOf(r, r.IntN(500))) {
			s := signed(t, secret, b)
			if !Verify(keyOf(secret), b, s) {
				t.Errorf("%d and %q: %v is not right", secret, b, s)
			}
			if s.E < 0 || s.E >= api.Q || s.S < 0 || s.S >= api.Q {
				t.Errorf("%d and %q: got %v", secret, b, s)
			}
		}
	}
}

// P11.4: whatever the memory of the text is.
func TestSignedEqually(t *testing.T) {
	r := random(3)
	for _, secret := range secrets(r, 20) {
		for _, b := range texts(r, 20) {
			kept := bytes.Clone(b)
			s := signed(t, secret, b)
			for i, again := range [][]byte{b, slices.Concat([]byte{}, b), append(make([]byte, 0, 100), b...), append(bytes.Clone(b), "abc"...)[:len(b)]} {
				if signed(t, secret, again) != s || !Verify(keyOf(secret), again, s) {
					t.Errorf("%d and %q, %d: got %v, not %v", secret, b, i, signed(t, secret, again), s)
				}
			}
			if !bytes.Equal(b, kept) {
				t.Errorf("%q: Sign or Verify has changed it to %q", kept, b)
			}
		}
	}
}
