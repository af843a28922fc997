package check_test

import (
	"bytes"
	"crypto/sha256"
	"encoding/hex"
	"fmt"
	"slices"
	"testing"

	"broadsheet/api"
	"broadsheet/check"
	"broadsheet/sign"
)

// P10.1, P10.2: four signed checkpoints, worked out by another program: what is signed, the owner, the sum of all bytes laid down.
func TestWorkedOutElsewhere(t *testing.T) {
	bytesOf := func(s string) []byte {
		b, err := hex.DecodeString(s)
		if err != nil {
			t.Fatal(err)
		}
		return b
	}
	for i, c := range []struct {
		seed              string
		index, size       int
		root              string
		body, public, sum string
	}{
		{
			"000102030405060708090a0b0c0d0e0f101112131415161718191a1b1c1d1e1f", 0, 0, "e3b0c44298fc1c149afbf4c8996fb92427ae41e4649b934ca495991b7852b855",
			"62726f6164736865657420636865636b00000000e3b0c44298fc1c149afbf4c8996fb92427ae41e4649b934ca495991b7852b855",
			"b42afdcc5293ddaab5a0673be33566ef65cfcf836f2c250b0c447efd43831b5a",
			"bbae2d4be73203cac9cf771dd0e9b16c7bfe109cca2c560835c09b899089081c",
		},
		{
			"ffffffffffffffffffffffffffffffffffffffffffffffffffffffffffffffff", 15, 256, "e0e1e2e3e4e5e6e7e8e9eaebecedeeeff0f1f2f3f4f5f6f7f8f9fafbfcfdfeff",
			"62726f6164736865657420636865636b00000100e0e1e2e3e4e5e6e7e8e9eaebecedeeeff0f1f2f3f4f5f6f7f8f9fafbfcfdfeff",
			"132ce71633028c9693a8cc38b42fa3417f5e17052a5119c68ae9b8243aebf694",
			"d0fee3fd0603125aca4d775d769bcf58bfc38abff62ac3dcf1fd558c76d30cd3",
		},
		{
			"19b25856e1c150ca834cffc8b59b23adbd0ec0389e58eb22b3b64768098d002b", 6, 5, "0000000000000000000000000000000000000000000000000000000000000000",
			"62726f6164736865657420636865636b000000050000000000000000000000000000000000000000000000000000000000000000",
			"edf7fed82e45b39843f6252810917b9d5ceee1e01b2363453b5955d12215b743",
			"d36f84b360987d753ca55d0b251711f2ae645ba5279c2ea5d707a163b5ef040b",
		},
		{
			"0000000000000000000000000000000000000000000000000000000000000000", 9, 255, "ba7816bf8f01cfea414140de5dae2223b00361a396177a9cb410ff61f20015ad",
			"62726f6164736865657420636865636b000000ffba7816bf8f01cfea414140de5dae2223b00361a396177a9cb410ff61f20015ad",
			"b1e7503726cf747dd255fe19d29dd1efb027da22e5aca3f93b9fe557c26f915b",
			"726200426d51b3b6de9f3a8cc250aab5d11e9cf148c1f0571ea45be427f04207",
		},
	} {
		point := api.Checkpoint{Size: c.size, Root: bytesOf(c.root)}
		is(t, fmt.Sprintf("P10.1: case %d: Body", i), check.Body(point), bytesOf(c.body))
		s := signed(t, bytesOf(c.seed), c.index, point)
		sum := sha256.Sum256(laid(t, s))
		is(t, fmt.Sprintf("P10.2: case %d: the sum of Encode", i), sum[:], bytesOf(c.sum))
		if !check.Verify(bytesOf(c.public), s) {
			t.Errorf("P10.1: case %d: not verified", i)
		}
	}
}

// P10.1, P10.3: the chapter's run, for each key and for Sizes of each kind; it holds of what comes back from the bytes, too.
func TestRun(t *testing.T) {
	for n, seed := range [][]byte{noise(32), make([]byte, 32), bytes.Repeat([]byte{255}, 32), roomy(noise(32))} {
		public := sign.Public(seed)
		for index := range api.Keys {
			for _, size := range []int{sizes[(n+index)%len(sizes)], 0, api.MaxLeaves} {
				what := fmt.Sprintf("seed %d, key %d, Size %d", n, index, size)
				c := point(size)
				s := signed(t, seed, index, c)
				if !check.Verify(public, s) {
					t.Errorf("P10.3: %s: not verified", what)
				}
				signedIs(t, "P10.1: Sign: "+what, s, wantSigned(t, seed, index, c))
				if !sign.Verify(public, wantBody(c), s.Sig) || !check.Same(s.Check, c) {
					t.Errorf("P10.1: %s: not both: the checkpoint, and a signature of its Body", what)
				}
				back := read(t, laid(t, s))
				signedIs(t, "P10.3: back from its bytes: "+what, back, s)
				if !check.Verify(public, back) {
					t.Errorf("P10.3: %s: back from its bytes it is not verified", what)
				}
			}
		}
	}
}

// P10.1, R4: no key is counted here, and no answer hangs on what was asked before it.
func TestSignTwice(t *testing.T) {
	first := signed(t, noise(32), 3, point(5))
	signed(t, noise(32), 3, point(6))
	signed(t, make([]byte, 32), 3, point(5))
	signedIs(t, "P10.1: Sign twice", signed(t, noise(32), 3, point(5)), first)
}

// signRefuses holds Sign's answer against a refusal, beside which nothing is told.
func signRefuses(t *testing.T, seed []byte, index int, c api.Checkpoint, want api.Errno) {
	t.Helper()
	if s, why := check.Sign(seed, index, c); why != want || !isZero(s) {
		t.Errorf("P10.1, R3: Sign, a seed of %d bytes, key %d, Size %d, a Root of %d bytes: %v, want %v; zero: %v", len(seed), index, c.Size, len(c.Root), why, want, isZero(s))
	}
}

// P10.1, R8: what is not right is refused ahead of all else, whatever the seed and the index are.
func TestSignOfWhatIsNotRight(t *testing.T) {
	for _, c := range notRight() {
		for _, seed := range [][]byte{nil, {}, noise(31), noise(32), noise(33), noise(64)[:32]} {
			for _, index := range append([]int{0, 3, 15}, noIndexes...) {
				signRefuses(t, seed, index, c, api.ErrForm)
			}
		}
	}
	signRefuses(t, noise(32), 0, rooted(31), api.ErrForm) // the chapter's example
}

// P10.1: what sign.Sign refuses, by its own refusals, in its own order.
func TestSignOfWhatSignRefuses(t *testing.T) {
	for _, size := range sizes {
		c := point(size)
		for _, n := range []int{0, 1, 16, 31, 33, 64, api.MaxRecord + 1} {
			for _, seed := range [][]byte{noise(n), noise(n + 32)[:n]} {
				for _, index := range append([]int{0, 3, 15}, noIndexes...) {
					signRefuses(t, seed, index, c, api.ErrArg)
				}
			}
		}
		signRefuses(t, nil, 0, c, api.ErrArg)
		signRefuses(t, []byte{}, 16, c, api.ErrArg)
		for _, index := range noIndexes {
			signRefuses(t, noise(32), index, c, api.ErrUsed)
			_, want := sign.Sign(noise(32), index, wantBody(c))
			signRefuses(t, noise(32), index, c, want)
		}
	}
}

// fails holds Verify's answer against false.
func fails(t *testing.T, name string, public []byte, s api.Signed) {
	t.Helper()
	if check.Verify(public, s) {
		t.Errorf("P10.1: Verify: %s: true", name)
	}
}

// P10.1: another public, none, one that is cut off or goes on, another seed's.
func TestVerifyOfOtherPublics(t *testing.T) {
	seed := noise(32)
	public := sign.Public(seed)
	s := signed(t, seed, 3, point(5))
	if !check.Verify(roomy(public), s) {
		t.Error("P10.1, R5: Verify of a public with room: false")
	}
	for bit := range 8 * len(public) {
		other := bytes.Clone(public)
		other[bit/8] ^= 1 << (bit % 8)
		fails(t, fmt.Sprintf("bit %d of the public", bit), other, s)
	}
	for n := range 32 {
		fails(t, fmt.Sprintf("the public's first %d bytes", n), public[:n], s)
		fails(t, fmt.Sprintf("all from byte %d of the public on", n+1), public[n+1:], s)
	}
	fails(t, "nil", nil, s)
	fails(t, "an empty public", []byte{}, s)
	fails(t, "a zero more", append(bytes.Clone(public), 0), s)
	fails(t, "the public twice", slices.Concat(public, public), s)
	fails(t, "zeros", make([]byte, 32), s)
	fails(t, "the seed", seed, s)
	fails(t, "the Root", s.Check.Root, s)
	for n := range 5 {
		fails(t, "another seed's", sign.Public(noise(40 + n)[:32]), s)
	}
}

// turned tells s, in memory of its own, with one change.
func turned(s api.Signed, change func(s *api.Signed)) api.Signed {
	s = copied(s)
	change(&s)
	return s
}

// P10.1: each field of the checkpoint turned in turn.
func TestVerifyOfTurnedCheckpoints(t *testing.T) {
	public := sign.Public(noise(32))
	for _, size := range []int{0, 5, 255, 256} {
		s := signed(t, noise(32), 3, point(size))
		for other := -300; other < 600; other++ {
			if other != size {
				fails(t, fmt.Sprintf("Size %d as %d", size, other), public, turned(s, func(s *api.Signed) { s.Check.Size = other }))
			}
		}
		for _, other := range []int{size + 1<<32, size - 1<<32, size + 1<<16, -size - 1} {
			fails(t, fmt.Sprintf("Size %d as %d", size, other), public, turned(s, func(s *api.Signed) { s.Check.Size = other }))
		}
		for bit := range 8 * api.HashSize {
			fails(t, fmt.Sprintf("bit %d of the Root", bit), public, turned(s, func(s *api.Signed) { s.Check.Root[bit/8] ^= 1 << (bit % 8) }))
		}
		for n := range 40 {
			if n != api.HashSize {
				fails(t, fmt.Sprintf("a Root of %d bytes", n), public, turned(s, func(s *api.Signed) { s.Check.Root = append(s.Check.Root, noise(9)...)[:n] }))
			}
		}
	}
}

// P10.1: the signature turned in turn: its Index, a bit of each part and of each hash of its Path, their order.
func TestVerifyOfTurnedSignatures(t *testing.T) {
	public := sign.Public(noise(32))
	s := signed(t, noise(32), 3, point(5))
	for index := range api.Keys {
		if index != 3 {
			fails(t, fmt.Sprintf("key 3 as %d", index), public, turned(s, func(s *api.Signed) { s.Sig.Index = index }))
		}
	}
	for place := range places {
		for _, bit := range []int{0, 7, 100, 255} {
			fails(t, fmt.Sprintf("bit %d of part %d", bit, place), public, turned(s, func(s *api.Signed) { s.Sig.Parts[place][bit/8] ^= 1 << (bit % 8) }))
		}
		fails(t, "two parts swapped", public, turned(s, func(s *api.Signed) {
			s.Sig.Parts[place], s.Sig.Parts[place^1] = s.Sig.Parts[place^1], s.Sig.Parts[place]
		}))
	}
	for place := range api.Height {
		for bit := range 8 * api.HashSize {
			fails(t, fmt.Sprintf("bit %d of hash %d", bit, place), public, turned(s, func(s *api.Signed) { s.Sig.Path[place][bit/8] ^= 1 << (bit % 8) }))
		}
	}
	for i, sig := range wrongSigs(s.Sig) {
		fails(t, fmt.Sprintf("a signature of no right form, case %d", i), public, api.Signed{Check: s.Check, Sig: sig})
	}
	fails(t, "what has the form alone", public, unsigned(5, 3))
	fails(t, "the signature of another checkpoint", public, api.Signed{Check: point(5), Sig: signed(t, noise(32), 3, point(6)).Sig})
	fails(t, "a zero Signed", public, api.Signed{})
	fails(t, "a zero Signed and no public", nil, api.Signed{})
}

// P10.1: a checkpoint that is not right is not verified, though the owner signed nothing at all, or what would be laid of it.
func TestVerifyOfWhatIsNotRight(t *testing.T) {
	seed := noise(32)
	public := sign.Public(seed)
	ofNothing, _ := sign.Sign(seed, 3, nil)
	for i, c := range notRight() {
		fails(t, fmt.Sprintf("not right, case %d, nothing signed", i), public, api.Signed{Check: c, Sig: ofNothing})
		if len(c.Root) > 100 {
			continue
		}
		sig, _ := sign.Sign(seed, 3, wantBody(c))
		fails(t, fmt.Sprintf("not right, case %d, its letters signed", i), public, api.Signed{Check: c, Sig: sig})
	}
	fails(t, "right, nothing signed", public, api.Signed{Check: point(5), Sig: ofNothing})
}

// P10.1: what the owner signed of other texts is no checkpoint's, such as are like its Body too.
func TestVerifyOfOtherTexts(t *testing.T) {
	seed := noise(32)
	public := sign.Public(seed)
	c := point(5)
	body := wantBody(c)
	for i, text := range [][]byte{
		body[16:], body[:51], append(bytes.Clone(body), 0), slices.Concat([]byte("broadsheet cosign"), body[16:]),
		slices.Concat([]byte("Broadsheet check"), body[16:]), slices.Concat([]byte("broadsheet check "), body[16:]), slices.Concat([]byte("broadsheet check\x00"), body[16:]),
		slices.Concat(body[:16], []byte{5, 0, 0, 0}, c.Root), slices.Concat(body[:16], []byte{5}, c.Root), slices.Concat(body[:16], c.Root, body[16:20]),
		slices.Concat(body[:20], []byte{0, 32}, c.Root),
	} {
		sig, _ := sign.Sign(seed, 3, text)
		fails(t, fmt.Sprintf("another text, case %d", i), public, api.Signed{Check: c, Sig: sig})
	}
	sig, _ := sign.Sign(seed, 3, body)
	if !check.Verify(public, api.Signed{Check: c, Sig: sig}) {
		t.Error("P10.1: Verify of what sign.Sign signed of Body: false")
	}
}

// P10.1, R5: the room behind lists is not read.
func TestVerifyWithRoom(t *testing.T) {
	s := roomySigned(signed(t, noise(32), 3, point(5)))
	if !check.Verify(sign.Public(noise(32)), s) {
		t.Error("P10.1, R5: Verify of lists with room: false")
	}
}
