package cosign_test

import (
	"bytes"
	"crypto/sha256"
	"encoding/hex"
	"fmt"
	"testing"

	"broadsheet/api"
	"broadsheet/cosign"
	"broadsheet/sign"
	"broadsheet/wire"
)

// P11.1, P11.2: four cosignatures, worked out by another program: what is signed, the owner, the sum of all bytes laid down.
func TestWorkedOutElsewhere(t *testing.T) {
	bytesOf := func(s string) []byte {
		b, err := hex.DecodeString(s)
		if err != nil {
			t.Fatal(err)
		}
		return b
	}
	for i, c := range []struct {
		seed                 string
		index, witness, size int
		root                 string
		body, public, sum    string
	}{
		{
			"000102030405060708090a0b0c0d0e0f101112131415161718191a1b1c1d1e1f", 0, 0, 0, "e3b0c44298fc1c149afbf4c8996fb92427ae41e4649b934ca495991b7852b855",
			"62726f6164736865657420636f7369676e00000000e3b0c44298fc1c149afbf4c8996fb92427ae41e4649b934ca495991b7852b855",
			"b42afdcc5293ddaab5a0673be33566ef65cfcf836f2c250b0c447efd43831b5a",
			"ceb7ece7f94a30a70824793ade7751040e41d9ac66f5b1974e050fe96d8e10e7",
		},
		{
			"ffffffffffffffffffffffffffffffffffffffffffffffffffffffffffffffff", 15, 3, 256, "e0e1e2e3e4e5e6e7e8e9eaebecedeeeff0f1f2f3f4f5f6f7f8f9fafbfcfdfeff",
			"62726f6164736865657420636f7369676e00000100e0e1e2e3e4e5e6e7e8e9eaebecedeeeff0f1f2f3f4f5f6f7f8f9fafbfcfdfeff",
			"132ce71633028c9693a8cc38b42fa3417f5e17052a5119c68ae9b8243aebf694",
			"aa4ab75c447088e36d673aebb64b7ad28aee4e29e7a8f057fc0e3b8da7538747",
		},
		{
			"19b25856e1c150ca834cffc8b59b23adbd0ec0389e58eb22b3b64768098d002b", 6, 1, 5, "0000000000000000000000000000000000000000000000000000000000000000",
			"62726f6164736865657420636f7369676e000000050000000000000000000000000000000000000000000000000000000000000000",
			"edf7fed82e45b39843f6252810917b9d5ceee1e01b2363453b5955d12215b743",
			"b23750c0459614e1b5e5e9a573927544c8537e206dbbe231187f8eea0cb0d7a0",
		},
		{
			"0000000000000000000000000000000000000000000000000000000000000000", 9, 2, 255, "ba7816bf8f01cfea414140de5dae2223b00361a396177a9cb410ff61f20015ad",
			"62726f6164736865657420636f7369676e000000ffba7816bf8f01cfea414140de5dae2223b00361a396177a9cb410ff61f20015ad",
			"b1e7503726cf747dd255fe19d29dd1efb027da22e5aca3f93b9fe557c26f915b",
			"66b123cd8bec7cf83e27287c6d9073c3cc0e57934330c7f2f7715e058cf43ddd",
		},
	} {
		point := api.Checkpoint{Size: c.size, Root: bytesOf(c.root)}
		is(t, fmt.Sprintf("P11.1: case %d: Body", i), cosign.Body(point), bytesOf(c.body))
		g := signed(t, bytesOf(c.seed), c.index, c.witness, point)
		w := wire.New()
		if !cosign.Put(w, g) {
			t.Errorf("P11.2: case %d: Put: false", i)
		}
		sum := sha256.Sum256(w.Done())
		is(t, fmt.Sprintf("P11.2: case %d: the sum of what Put laid down", i), sum[:], bytesOf(c.sum))
		p := policy(4, 1)
		p.Witnesses[c.witness] = bytesOf(c.public)
		if !cosign.Verify(p, point, g) || cosign.Count(p, point, g) != 1 {
			t.Errorf("P11.1: case %d: not verified", i)
		}
	}
}

// P11.1: the number and what sign.Sign gives of Body, for each witness and each key, whoever's seed it is.
func TestSign(t *testing.T) {
	for witness := range api.MaxWitnesses {
		for index := range api.Keys {
			c := point(sizes[(witness+index)%len(sizes)])
			for _, seed := range [][]byte{seedOf(witness), roomy(seedOf(logNumber))} {
				g := signed(t, seed, index, witness, c)
				cosigIs(t, fmt.Sprintf("P11.1: Sign, witness %d, key %d, Size %d", witness, index, c.Size), g, wantCosig(t, seed, index, witness, c))
				if !sign.Verify(sign.Public(seed), wantBody(c), g.Sig) {
					t.Errorf("P11.1: witness %d, key %d, Size %d: no signature of Body", witness, index, c.Size)
				}
			}
		}
	}
}

// P11.1, R4: no key is counted here, no size either, and no answer hangs on what was asked before it.
func TestSignTwice(t *testing.T) {
	first := by(t, 1, 3, 5)
	by(t, 1, 3, 4)
	by(t, 2, 3, 5)
	other := point(5)
	other.Root[0] ^= 1
	signed(t, seedOf(1), 3, 1, other)
	cosigIs(t, "P11.1: Sign twice", by(t, 1, 3, 5), first)
}

// signRefuses holds Sign's answer against a refusal, beside which nothing is told.
func signRefuses(t *testing.T, seed []byte, index, witness int, c api.Checkpoint, want api.Errno) {
	t.Helper()
	if g, why := cosign.Sign(seed, index, witness, c); why != want || !isZero(g) {
		t.Errorf("P11.1, R3: Sign, a seed of %d bytes, key %d, witness %d, Size %d, a Root of %d bytes: %v, want %v; zero: %v", len(seed), index, witness, c.Size, len(c.Root), why, want, isZero(g))
	}
}

// someSeeds are a right one and such as are none.
func someSeeds() [][]byte {
	return [][]byte{seedOf(1), nil, {}, noise(1), noise(31), noise(33), noise(64), seedOf(1)[:31]}
}

// P11.1, R8: who is no witness is refused ahead of all else, whatever the checkpoint, the seed and the index are.
func TestSignOfNoWitness(t *testing.T) {
	for _, witness := range noWitnesses {
		for _, c := range append(notRight(), point(0), point(5), point(256)) {
			for _, seed := range someSeeds() {
				for _, index := range append([]int{0, 3, 15}, noIndexes...) {
					signRefuses(t, seed, index, witness, c, api.ErrArg)
				}
			}
		}
	}
	signRefuses(t, seedOf(1), 0, 4, point(5), api.ErrArg) // the chapter's example
}

// P11.1, R8: what is not right is refused ahead of what package sign refuses, whatever the seed and the index are.
func TestSignOfWhatIsNotRight(t *testing.T) {
	for witness := range api.MaxWitnesses {
		for _, c := range notRight() {
			for _, seed := range someSeeds() {
				for _, index := range append([]int{0, 3, 15}, noIndexes...) {
					signRefuses(t, seed, index, witness, c, api.ErrForm)
				}
			}
		}
	}
}

// P11.1: what sign.Sign refuses, by its own refusals, in its own order.
func TestSignOfWhatSignRefuses(t *testing.T) {
	for witness := range api.MaxWitnesses {
		for _, size := range sizes {
			c := point(size)
			for _, seed := range append(someSeeds()[1:], noise(16), noise(256+32), noise(api.MaxRecord+1)) {
				for _, index := range append([]int{0, 3, 15}, noIndexes...) {
					signRefuses(t, seed, index, witness, c, api.ErrArg)
				}
			}
			for _, index := range noIndexes {
				signRefuses(t, seedOf(witness), index, witness, c, api.ErrUsed)
				_, want := sign.Sign(seedOf(witness), index, wantBody(c))
				signRefuses(t, seedOf(witness), index, witness, c, want)
			}
		}
	}
}

// P11.1, R4: a Root of any bytes is signed as it stands.
func TestSignOfRoots(t *testing.T) {
	for i, root := range [][]byte{make([]byte, 32), bytes.Repeat([]byte{255}, 32), noise(77)[:32], roomy(noise(32))} {
		c := api.Checkpoint{Size: 64 * i, Root: root}
		cosigIs(t, fmt.Sprintf("P11.1: Sign of Root %d", i), signed(t, seedOf(2), i, 2, c), wantCosig(t, seedOf(2), i, 2, c))
	}
}
