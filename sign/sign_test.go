package sign_test

import (
	"bytes"
	"fmt"
	"math"
	"slices"
	"testing"

	"broadsheet/api"
	"broadsheet/once"
	"broadsheet/sign"
)

// Numbers of keys that no owner has. The last ones have the lowest bits of keys that there are.
var noKeys = []int{-1, 16, 17, 31, 32, 255, 256, -16, -15, -2, math.MinInt, math.MaxInt, math.MinInt + 3, 1<<31 + 3, 1 << 32, 1<<32 + 3, -1<<32 + 3}

// The bytes 0 to 31.
func counting() []byte {
	b := make([]byte, api.SeedSize)
	for i := range b {
		b[i] = byte(i)
	}
	return b
}

// P5.1, P5.2: hashes that were worked out elsewhere.
func TestKnown(t *testing.T) {
	zeros, text := make([]byte, api.SeedSize), []byte("an owner of sixteen keys, a seed")
	laid := func(seed []byte, index int, msg string) []byte {
		b, why := sign.Encode(signed(t, seed, index, []byte(msg)))
		if why != api.OK {
			t.Errorf("P5.2: Encode: %v", why)
		}
		return tagged(b[0], b[1:]) // the sum of all of b
	}
	for _, c := range []struct {
		name string
		got  []byte
		want string
	}{
		{"Public(zeros)", sign.Public(zeros), "b1e7503726cf747dd255fe19d29dd1efb027da22e5aca3f93b9fe557c26f915b"},
		{"Public(0 to 31)", sign.Public(counting()), "b42afdcc5293ddaab5a0673be33566ef65cfcf836f2c250b0c447efd43831b5a"},
		{"Public(a text)", sign.Public(text), "6fc534244d05cb23307ba6f629772bc4346ffba7d67922efa04014a5f8a295c7"},
		{"Encode(Sign(zeros, 0, nothing))", laid(zeros, 0, ""), "260676e8c9e9fc8d9eaab2eb184d67405feec73572c72a9ba6825a87181b60cc"},
		{"Encode(Sign(0 to 31, 5, abc))", laid(counting(), 5, "abc"), "9d2ef99fc62f6f7222661650f46385e7d2bc02570d12978f207ccc75d0cdce8d"},
		{"Encode(Sign(a text, 15, m))", laid(text, 15, "m"), "114ea07bd627a92650a99361fe69413170bfca38c6d513ba50e6a5fdec138d40"},
		{"Encode(Sign(a text, 10, m))", laid(text, 10, "m"), "b7e54b9f0751b04337a47b7414f00d05c01a9a4b53b3cd383c557b96f70a3cbb"},
	} {
		if got := fmt.Sprintf("%x", c.got); got != c.want {
			t.Errorf("P5.1, P5.2: %s: %s, want %s", c.name, got, c.want)
		}
	}
}

// The chapter's run.
func TestRun(t *testing.T) {
	seed, msg := noise(api.SeedSize), []byte("some message")
	s, why := sign.Sign(seed, 15, msg)
	if why != api.OK || !sign.Verify(sign.Public(seed), msg, s) {
		t.Errorf("P5.3: Verify(Public(seed), msg, Sign(seed, 15, msg)): %v", why)
	}
}

// P5.1: Public is the top of all keys' nodes; each byte of the seed counts.
func TestPublic(t *testing.T) {
	seed := noise(api.SeedSize)
	is(t, "P5.1: Public", sign.Public(seed), wantPublic(seed))
	seen := map[string]int{string(sign.Public(seed)): -1}
	for i := range seed {
		turned := bytes.Clone(seed)
		turned[i] ^= 1
		got := sign.Public(turned)
		is(t, fmt.Sprintf("P5.1: Public, byte %d turned", i), got, wantPublic(turned))
		if other, ok := seen[string(got)]; ok {
			t.Errorf("P5.1: one Public: byte %d and byte %d turned", i, other)
		}
		seen[string(got)] = i
	}
}

// P5.1: a seed that has not SeedSize bytes has no Public, whatever is in the room behind it.
func TestPublicOfNoSeed(t *testing.T) {
	for n := range 100 {
		for _, seed := range [][]byte{noise(n), noise(n + 32)[:n]} {
			if got := sign.Public(seed); n != api.SeedSize && got != nil {
				t.Errorf("P5.1: Public of a seed of %d bytes: %x", n, got)
			}
		}
	}
	for _, n := range []int{1000, api.MaxRecord + 1} {
		if sign.Public(noise(n)) != nil {
			t.Errorf("P5.1: Public of a seed of %d bytes", n)
		}
	}
	if sign.Public(nil) != nil || sign.Public([]byte{}) != nil {
		t.Error("P5.1, R4: Public of a nil and of an empty seed")
	}
}

// P5.1, P5.3: each key signs with its own parts, its path is of nodes worked out another way, and the owner's Public verifies it.
func TestEachKey(t *testing.T) {
	for n := range 3 {
		seed := noise(n + 32)[n:]
		public := sign.Public(seed)
		for index := range api.Keys {
			msg := noise(index * n)
			s := signed(t, seed, index, msg)
			sigIs(t, fmt.Sprintf("P5.1: Sign with key %d", index), s, api.Sig{Index: index, Parts: wantParts(seed, index, msg), Path: wantPath(seed, index)})
			if !alike(s.Parts, once.Sign(seed, index, msg)) {
				t.Errorf("P5.1: key %d: Parts are not once.Sign's", index)
			}
			if !sign.Right(s) || !sign.Verify(public, msg, s) {
				t.Errorf("P5.3: key %d is not verified", index)
			}
		}
	}
}

// P5.3: messages and seeds of many lengths and kinds.
func TestSignedIsVerified(t *testing.T) {
	for n := range 60 {
		seed, msg := tagged(byte(n)), noise(n*n)
		if !sign.Verify(sign.Public(seed), msg, signed(t, seed, n%api.Keys, msg)) {
			t.Errorf("P5.3: key %d, message of %d bytes: not verified", n%api.Keys, n*n)
		}
	}
	seed := noise(32)
	for _, msg := range [][]byte{nil, {}, noise(9)[:0], {0}, noise(api.MaxRecord + 1)} {
		s := signed(t, seed, 3, msg)
		if !sign.Verify(sign.Public(seed), msg, s) {
			t.Errorf("P5.3: message of %d bytes: not verified", len(msg))
		}
		if len(msg) == 0 {
			sigIs(t, "R4: Sign of a nil and of an empty message", s, signed(t, seed, 3, nil))
			if !sign.Verify(sign.Public(seed), nil, s) {
				t.Error("R4: Verify of a nil and of an empty message")
			}
		}
	}
}

// signRefuses holds Sign's answer against a refusal, beside which nothing is told.
func signRefuses(t *testing.T, seed []byte, index int, want api.Errno) {
	t.Helper()
	for _, msg := range [][]byte{nil, []byte("m")} {
		if s, why := sign.Sign(seed, index, msg); why != want || !isZero(s) {
			t.Errorf("P5.1, R3: Sign: seed of %d bytes, key %d: %v, %d parts, want %v", len(seed), index, why, len(s.Parts), want)
		}
	}
}

// P5.1: keys that an owner has not are used.
func TestSignWithNoKey(t *testing.T) {
	for _, index := range noKeys {
		signRefuses(t, noise(api.SeedSize), index, api.ErrUsed)
	}
}

// P5.1, R8: a seed that is none is refused, and so is one with a key that is none: the seed is named first.
func TestSignWithNoSeed(t *testing.T) {
	for _, n := range []int{0, 1, 31, 33, 64, api.MaxRecord + 1} {
		for _, seed := range [][]byte{noise(n), noise(n + 32)[:n]} {
			for _, index := range append([]int{0, 3, 15}, noKeys...) {
				signRefuses(t, seed, index, api.ErrArg)
			}
		}
	}
	signRefuses(t, nil, 0, api.ErrArg)
	signRefuses(t, nil, -1, api.ErrArg)
	signRefuses(t, []byte{}, 16, api.ErrArg)
}

// R4: no key is counted here, and no answer hangs on what was asked before it.
func TestSignTwice(t *testing.T) {
	seed, msg := noise(32), []byte("m")
	first, public := signed(t, seed, 3, msg), sign.Public(seed)
	for index := range api.Keys {
		signed(t, seed, index, []byte("another"))
		signed(t, noise(33)[1:], index, msg)
	}
	sign.Sign(nil, 99, nil)
	sign.Verify(nil, nil, api.Sig{})
	sigIs(t, "R4: Sign twice", signed(t, seed, 3, msg), first)
	is(t, "R4: Public twice", sign.Public(seed), public)
}

// unverified holds Verify's answer against false.
func unverified(t *testing.T, name string, public, msg []byte, s api.Sig) {
	t.Helper()
	if sign.Verify(public, msg, s) {
		t.Errorf("P5.2: %s: verified", name)
	}
}

// P5.2: a signature that is none verifies nothing, not even for an owner that is none.
func TestVerifyOfNoSig(t *testing.T) {
	for _, public := range [][]byte{nil, {}, sign.Public(noise(32)), make([]byte, api.HashSize)} {
		for _, msg := range [][]byte{nil, []byte("m")} {
			unverified(t, "a zero Sig", public, msg, api.Sig{})
			unverified(t, "a Sig of empty lists", public, msg, api.Sig{Parts: [][]byte{}, Path: [][]byte{}})
			unverified(t, "a Sig of nil parts", public, msg, api.Sig{Parts: make([][]byte, places), Path: make([][]byte, api.Height)})
			unverified(t, "a Sig of any hashes", public, msg, api.Sig{Parts: hashes(places), Path: hashes(api.Height)})
		}
	}
}

// P5.2: other messages are not verified.
func TestVerifyOfAnotherMessage(t *testing.T) {
	seed := noise(32)
	public := sign.Public(seed)
	for n := range 100 {
		msg := []byte(fmt.Sprint("message ", n))
		s := signed(t, seed, n%api.Keys, msg)
		unverified(t, "the next message", public, []byte(fmt.Sprint("message ", n+1)), s)
		unverified(t, "a message cut off", public, msg[:len(msg)-1], s)
		unverified(t, "a longer message", public, append(bytes.Clone(msg), 0), s)
		unverified(t, "no message", public, nil, s)
	}
}

// P5.2: other owners' Publics, and such as are none, verify nothing.
func TestVerifyByAnotherPublic(t *testing.T) {
	seed, msg := noise(32), []byte("m")
	public := sign.Public(seed)
	for index := range api.Keys {
		s := signed(t, seed, index, msg)
		for name, wrong := range map[string][]byte{
			"another owner's Public":       sign.Public(noise(33)[1:]),
			"nil":                          nil,
			"an empty Public":              {},
			"a Public with all as room":    bytes.Clone(public)[:0],
			"a Public a byte too short":    public[:31],
			"a Public without its first":   public[1:],
			"a Public a byte too long":     append(bytes.Clone(public), 0),
			"a Public twice":               slices.Concat(public, public),
			"zeros":                        make([]byte, api.HashSize),
			"the key's Public":             once.Public(seed, index),
			"the seed":                     seed,
			"a node on the way":            wantNode(seed, index&8, 8),
			"the other one at the highest": s.Path[api.Height-1],
		} {
			unverified(t, fmt.Sprintf("key %d: %s", index, name), wrong, msg, s)
		}
	}
	s := signed(t, seed, 3, msg)
	for bit := range 8 * len(public) {
		turned := bytes.Clone(public)
		turned[bit/8] ^= 1 << (bit % 8)
		unverified(t, fmt.Sprintf("bit %d of the Public turned", bit), turned, msg, s)
	}
}

// P5.2: another Index leads up another way, or is none, though its lowest bits lead up the right one.
func TestVerifyOfAnotherIndex(t *testing.T) {
	seed, msg := noise(32), []byte("m")
	public := sign.Public(seed)
	for index := range api.Keys {
		s := signed(t, seed, index, msg)
		for other := -40; other < 60; other++ {
			s.Index = other
			if got := sign.Verify(public, msg, s); got != (other == index) {
				t.Errorf("P5.2: key %d, Index %d: %v", index, other, got)
			}
		}
		for _, add := range []int{1 << 8, 1 << 16, 1 << 31, 1 << 32, -1 << 32, math.MinInt} {
			s.Index = index + add
			unverified(t, fmt.Sprintf("key %d, Index %d", index, s.Index), public, msg, s)
		}
	}
}

// turnedAt tells s with one bit of one part, or of one hash of the Path behind the parts, turned.
func turnedAt(s api.Sig, place, bit int) api.Sig {
	turned := copied(s)
	all := slices.Concat(turned.Parts, turned.Path)
	all[place][bit/8] ^= 1 << (bit % 8)
	return turned
}

// P5.2: one bit that was turned, of any part and any hash of the Path, is told, though the form stays Right.
func TestVerifyOfTurnedBits(t *testing.T) {
	seed, msg := noise(32), []byte("m")
	public := sign.Public(seed)
	for index := range api.Keys {
		s := signed(t, seed, index, msg)
		for place := range places + api.Height {
			for bit := index; bit < 8*api.HashSize; bit += api.Keys {
				turned := turnedAt(s, place, bit)
				if !sign.Right(turned) || sign.Verify(public, msg, turned) {
					t.Fatalf("P5.2: key %d, hash %d, bit %d turned: Right %v", index, place, bit, sign.Right(turned))
				}
			}
		}
	}
}

// P5.2: whole hashes that are others' are told: another key's parts or path, hashes in another order.
func TestVerifyOfOthersHashes(t *testing.T) {
	seed, msg := noise(32), []byte("m")
	public := sign.Public(seed)
	for index := range api.Keys {
		s := signed(t, seed, index, msg)
		for other := range api.Keys {
			if other == index {
				continue
			}
			o := signed(t, seed, other, msg)
			unverified(t, fmt.Sprintf("parts of key %d, the rest of key %d", index, other), public, msg, api.Sig{Index: other, Parts: s.Parts, Path: o.Path})
			unverified(t, fmt.Sprintf("path of key %d, the rest of key %d", index, other), public, msg, api.Sig{Index: other, Parts: o.Parts, Path: s.Path})
		}
		for i := range api.Height - 1 {
			swapped := copied(s)
			swapped.Path[i], swapped.Path[i+1] = swapped.Path[i+1], swapped.Path[i]
			unverified(t, fmt.Sprintf("key %d, hashes %d and %d of the path swapped", index, i, i+1), public, msg, swapped)
		}
		for i := range places - 1 {
			swapped := copied(s)
			swapped.Parts[i], swapped.Parts[i+1] = swapped.Parts[i+1], swapped.Parts[i]
			unverified(t, fmt.Sprintf("key %d, parts %d and %d swapped", index, i, i+1), public, msg, swapped)
		}
	}
}

// P5.2: Verify asks for hashes of any making, not for a seed: whoever leads up to that top is verified.
func TestVerifyOfAnyTop(t *testing.T) {
	msg := []byte("m")
	for index := range api.Keys {
		s := api.Sig{Index: index, Parts: hashes(places), Path: hashes(api.Height)}
		node, _ := once.Root(msg, s.Parts)
		for level, other := range s.Path {
			if index>>level&1 == 0 {
				node = tagged(14, node, other)
			} else {
				node = tagged(14, other, node)
			}
		}
		if !sign.Verify(node, msg, s) {
			t.Errorf("P5.2: key %d: hashes that lead up to their top: not verified", index)
		}
	}
}
