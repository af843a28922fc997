package cosign_test

import (
	"bytes"
	"fmt"
	"slices"
	"testing"

	"broadsheet/api"
	"broadsheet/check"
	"broadsheet/cosign"
	"broadsheet/sign"
)

// holds asks that Verify is true, and that Count counts it.
func holds(t *testing.T, name string, p api.Policy, c api.Checkpoint, g api.Cosig) {
	t.Helper()
	if !cosign.Verify(p, c, g) || cosign.Count(p, c, g) != 1 {
		t.Errorf("P11.1: Verify: %s: %v, Count %d", name, cosign.Verify(p, c, g), cosign.Count(p, c, g))
	}
}

// fails asks that Verify is false, and that Count does not count it.
func fails(t *testing.T, name string, p api.Policy, c api.Checkpoint, g api.Cosig) {
	t.Helper()
	if cosign.Verify(p, c, g) || cosign.Count(p, c, g) != 0 || cosign.Met(p, c, g) {
		t.Errorf("P11.1: Verify: %s: %v, Count %d, Met %v", name, cosign.Verify(p, c, g), cosign.Count(p, c, g), cosign.Met(p, c, g))
	}
}

// P11.1: what was signed, by each witness with each of its keys, whatever the Quorum is; of each other one's key it is not.
func TestVerify(t *testing.T) {
	for witness := range api.MaxWitnesses {
		for index := range api.Keys {
			size := sizes[(witness+index)%len(sizes)]
			g := by(t, witness, index, size)
			for count := 1; count <= api.MaxWitnesses; count++ {
				p := policy(count, 1+index%count)
				name := fmt.Sprintf("witness %d of %d, key %d, Size %d", witness, count, index, size)
				if witness < count {
					holds(t, name, p, point(size), g)
					holds(t, name+", with room", roomyPolicy(p), api.Checkpoint{Size: size, Root: roomy(point(size).Root)}, roomyCosig(g))
				} else {
					fails(t, name, p, point(size), g)
				}
				for other := range api.MaxWitnesses {
					if other != witness {
						fails(t, fmt.Sprintf("%s, told as %d's", name, other), p, point(size), renamed(g, other))
					}
				}
			}
		}
	}
}

// P11.1, R5: a Witness below 0 or past the policy's, though who stands in the room behind the list did sign; and such numbers as fewer bytes would make right ones of.
func TestVerifyOfNoWitness(t *testing.T) {
	for count := 1; count <= api.MaxWitnesses; count++ {
		p := policy(8, 1)
		p.Witnesses = p.Witnesses[:count]
		for witness := range 8 {
			sig := wantCosig(t, seedOf(witness), 3, witness, point(5)).Sig
			if witness < count {
				holds(t, fmt.Sprintf("witness %d of %d", witness, count), p, point(5), api.Cosig{Witness: witness, Sig: sig})
			} else {
				fails(t, fmt.Sprintf("witness %d of %d", witness, count), p, point(5), api.Cosig{Witness: witness, Sig: sig})
			}
			for _, other := range append([]int{witness + 256, witness - 256, witness + 1<<32, witness - 1<<32, -witness - 1}, noWitnesses...) {
				if other != witness {
					fails(t, fmt.Sprintf("witness %d of %d, told as %d's", witness, count, other), p, point(5), api.Cosig{Witness: other, Sig: sig})
				}
			}
		}
	}
}

// P11.1: a place of a policy is what the number says, whoever stands there.
func TestVerifyOfPlaces(t *testing.T) {
	p := policy(4, 2)
	slices.Reverse(p.Witnesses)
	for witness := range api.MaxWitnesses {
		g := by(t, witness, 3, 5)
		for place := range api.MaxWitnesses {
			name := fmt.Sprintf("witness %d, told as that at %d", witness, place)
			if place == 3-witness {
				holds(t, name, p, point(5), renamed(g, place))
			} else {
				fails(t, name, p, point(5), renamed(g, place))
			}
		}
	}
}

// P11.1: another key in the policy: each bit of the witness's turned, the log's, and what else it could be taken for.
func TestVerifyOfOtherKeys(t *testing.T) {
	g := by(t, 1, 3, 5)
	with := func(key []byte) api.Policy {
		p := policy(3, 1)
		p.Witnesses[1] = key
		return p
	}
	for bit := range 8 * api.HashSize {
		key := publicOf(1)
		key[bit/8] ^= 1 << (bit % 8)
		fails(t, fmt.Sprintf("bit %d of the key", bit), with(key), point(5), g)
	}
	for i, key := range [][]byte{nil, {}, publicOf(1)[:31], append(publicOf(1), 0), make([]byte, 32), seedOf(1), point(5).Root, publicOf(logNumber), publicOf(7)} {
		fails(t, fmt.Sprintf("another key, case %d", i), with(key), point(5), g)
	}
	fails(t, "the log's signature", policy(3, 1), point(5), signed(t, seedOf(logNumber), 3, 1, point(5)))
	own := policy(3, 1)
	own.Log = publicOf(1)
	holds(t, "the log is a witness", own, point(5), g)
	own.Log = make([]byte, 32)
	holds(t, "any log", own, point(5), g)
}

// P11.1: another checkpoint: each Size, each bit of the Root turned, other lengths.
func TestVerifyOfOtherCheckpoints(t *testing.T) {
	p := policy(3, 1)
	for _, size := range []int{0, 5, 255, 256} {
		g := by(t, 2, 3, size)
		for other := -300; other < 600; other++ {
			if other != size {
				fails(t, fmt.Sprintf("Size %d as %d", size, other), p, point(other), g)
			}
		}
		for _, other := range []int{size + 1<<32, size - 1<<32, size + 1<<16, -size - 1} {
			fails(t, fmt.Sprintf("Size %d as %d", size, other), p, point(other), g)
		}
		for bit := range 8 * api.HashSize {
			c := point(size)
			c.Root[bit/8] ^= 1 << (bit % 8)
			fails(t, fmt.Sprintf("Size %d, bit %d of the Root", size, bit), p, c, g)
		}
		for n := range 40 {
			if n != api.HashSize {
				fails(t, fmt.Sprintf("a Root of %d bytes", n), p, api.Checkpoint{Size: size, Root: append(point(size).Root, noise(9)...)[:n]}, g)
			}
		}
	}
}

// turned tells g, in memory of its own, with one change.
func turned(g api.Cosig, change func(s *api.Sig)) api.Cosig {
	g = copied(g)
	change(&g.Sig)
	return g
}

// P11.1: the signature turned in turn: its Index, a bit of each part and each bit of its Path, their order.
func TestVerifyOfTurnedSignatures(t *testing.T) {
	p, c, g := policy(3, 1), point(5), by(t, 2, 3, 5)
	for index := range api.Keys {
		if index != 3 {
			fails(t, fmt.Sprintf("key 3 as %d", index), p, c, turned(g, func(s *api.Sig) { s.Index = index }))
		}
	}
	for place := range places {
		for _, bit := range []int{0, 7, 100, 255} {
			fails(t, fmt.Sprintf("bit %d of part %d", bit, place), p, c, turned(g, func(s *api.Sig) { s.Parts[place][bit/8] ^= 1 << (bit % 8) }))
		}
		fails(t, "two parts swapped", p, c, turned(g, func(s *api.Sig) { s.Parts[place], s.Parts[place^1] = s.Parts[place^1], s.Parts[place] }))
	}
	for place := range api.Height {
		for bit := range 8 * api.HashSize {
			fails(t, fmt.Sprintf("bit %d of hash %d", bit, place), p, c, turned(g, func(s *api.Sig) { s.Path[place][bit/8] ^= 1 << (bit % 8) }))
		}
	}
	for i, sig := range wrongSigs(g.Sig) {
		fails(t, fmt.Sprintf("a signature of no right form, case %d", i), p, c, api.Cosig{Witness: 2, Sig: sig})
	}
	for _, index := range noIndexes {
		fails(t, fmt.Sprintf("key 3 as %d", index), p, c, turned(g, func(s *api.Sig) { s.Index = index }))
	}
	fails(t, "what has the form alone", p, c, unsigned(2, 3))
	fails(t, "a zero Cosig", p, c, api.Cosig{})
	fails(t, "no signature", p, c, api.Cosig{Witness: 2})
	fails(t, "a zero Cosig of a zero checkpoint and a zero policy", api.Policy{}, api.Checkpoint{}, api.Cosig{})
}

// P11.1: a policy that is not right: nobody's is verified, though the witness's key stands in it.
func TestVerifyOfWrongPolicies(t *testing.T) {
	for witness := range 3 {
		g := by(t, witness, 3, 5)
		for _, w := range wrongPolicies() {
			fails(t, fmt.Sprintf("%s, witness %d", w.name, witness), w.p, point(5), g)
		}
	}
	p := policy(5, 1)
	for witness := range 5 {
		fails(t, fmt.Sprintf("five Witnesses, witness %d", witness), p, point(5), wantCosig(t, seedOf(witness), 3, witness, point(5)))
	}
}

// P11.1: a checkpoint that is not right is not verified, though the witness signed nothing at all, or what would be laid of it.
func TestVerifyOfWhatIsNotRight(t *testing.T) {
	ofNothing, _ := sign.Sign(seedOf(1), 3, nil)
	for i, c := range notRight() {
		fails(t, fmt.Sprintf("not right, case %d, nothing signed", i), policy(3, 1), c, api.Cosig{Witness: 1, Sig: ofNothing})
		fails(t, fmt.Sprintf("not right, case %d, its letters signed", i), policy(3, 1), c, wantCosig(t, seedOf(1), 3, 1, c))
	}
	fails(t, "right, nothing signed", policy(3, 1), point(5), api.Cosig{Witness: 1, Sig: ofNothing})
}

// P11.1: what the same key signed as a log is no cosignature, and a cosignature is no log's signature.
func TestVerifyOfCheckpointsOfALog(t *testing.T) {
	for index := range api.Keys {
		c := point(sizes[index%len(sizes)])
		s, why := check.Sign(seedOf(1), index, c)
		if why != api.OK || !check.Verify(publicOf(1), s) {
			t.Fatalf("P10.1: Sign with key %d: %v", index, why)
		}
		fails(t, fmt.Sprintf("what key %d signed as a log", index), policy(3, 1), c, api.Cosig{Witness: 1, Sig: s.Sig})
		g := signed(t, seedOf(1), index, 1, c)
		if check.Verify(publicOf(1), api.Signed{Check: c, Sig: g.Sig}) {
			t.Errorf("P11.1: what key %d cosigned: a log's signature", index)
		}
	}
}

// P11.1: what the witness signed of other texts is no cosignature, such as are like its Body too.
func TestVerifyOfOtherTexts(t *testing.T) {
	c := point(5)
	body := wantBody(c)
	for i, text := range [][]byte{
		body[17:], body[:52], append(bytes.Clone(body), 0), slices.Concat([]byte("broadsheet check"), body[17:]),
		slices.Concat([]byte("Broadsheet cosign"), body[17:]), slices.Concat([]byte("broadsheet cosign "), body[17:]), slices.Concat([]byte("broadsheet cosign\x00"), body[17:]),
		slices.Concat(body[:17], []byte{5, 0, 0, 0}, c.Root), slices.Concat(body[:17], []byte{5}, c.Root), slices.Concat(body[:17], c.Root, body[17:21]),
		slices.Concat(body[:21], []byte{0, 32}, c.Root), slices.Concat(body[:17], []byte{1}, body[17:]),
	} {
		sig, _ := sign.Sign(seedOf(1), 3, text)
		fails(t, fmt.Sprintf("another text, case %d", i), policy(3, 1), c, api.Cosig{Witness: 1, Sig: sig})
	}
	holds(t, "what sign.Sign signed of Body", policy(3, 1), c, wantCosig(t, seedOf(1), 3, 1, c))
}
