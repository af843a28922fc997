package witness_test

import (
	"fmt"
	"slices"
	"testing"

	"broadsheet/api"
	"broadsheet/check"
	"broadsheet/cosign"
	"broadsheet/disk"
	"broadsheet/sign"
	"broadsheet/witness"
)

// P18.2: the run: Cosign of size 2, then of size 1: a cosignature, ErrOld.
func TestRun(t *testing.T) {
	w, d, k := begun(t, "P18.2: the run")
	cosigns(t, "P18.2: the run", w, plain.signed(2), plain.grow(0, 2), 0)
	stands(t, "P18.2: the run", w, 0, plain.at(2), 1)
	cosignsNot(t, "P18.2: the run", w, plain.signed(1), plain.grow(0, 1), api.ErrOld)
	stands(t, "P18.2: the run", w, 0, plain.at(2), 1)
	tells(t, "P18.2: the run", d, plain.lie(2), recSize, false)
	tells(t, "P18.2: the run, the keys", k, used(1), keySize, false)
}

// P18.2: example 1: a checkpoint of another log.
func TestExampleOne(t *testing.T) {
	w, d, k := begun(t, "P18.2: example 1")
	for range 2 {
		cosignsNot(t, "P18.2: example 1", w, signedBy(otherSeed, 0, plain.at(2)), plain.grow(0, 2), api.ErrSign)
	}
	stands(t, "P18.2: example 1", w, 0, plain.at(0), 0)
	tells(t, "P18.2: example 1", d, "", 0, false)
	tells(t, "P18.2: example 1, the keys", k, "", 0, false)
}

// P18.2: example 2: the same one twice.
func TestExampleTwo(t *testing.T) {
	w, d, k := begun(t, "P18.2: example 2")
	for range 3 {
		cosigns(t, "P18.2: example 2", w, plain.signed(2), plain.grow(0, 2), 0)
		stands(t, "P18.2: example 2", w, 0, plain.at(2), 1)
		tells(t, "P18.2: example 2", d, plain.lie(2), recSize, false)
		tells(t, "P18.2: example 2, the keys", k, used(1), keySize, false)
	}
}

// onto tells a witness on new disks that are armed at their next call, which has the checkpoint of that size, cosigned since Open or not.
func onto(t *testing.T, name string, size int, cosigned bool) (*witness.Witness, *disk.Disk, *disk.Disk) {
	t.Helper()
	text, keys := "", 3
	if size > 0 {
		text = plain.lie(size)
	}
	d, k := kept(t, text), kept(t, used(keys))
	w := opened(t, name, d, k, 2, plain.at(size), keys)
	if cosigned {
		cosigns(t, name, w, plain.signed(size), api.Growth{}, keys)
	}
	d.Arm(1)
	k.Arm(1)
	return w, d, k
}

// untouched holds that neither disk was called since onto, and that the witness stands as it stood. It takes power from both.
func untouched(t *testing.T, name string, w *witness.Witness, d, k *disk.Disk, size int, cosigned bool) {
	t.Helper()
	keys := 3
	if cosigned {
		keys = 4
	}
	text := ""
	if size > 0 {
		text = plain.lie(size)
	}
	stands(t, name, w, 2, plain.at(size), keys)
	tells(t, name, d, text, len(text), false)
	tells(t, name+", the keys", k, used(keys), keys*keySize, false)
	armedSo(t, name, d, 1)
	armedSo(t, name+", the keys", k, 1)
}

// notSigned tells checkpoints that check.Verify refuses, made of one that it takes.
func notSigned(size int) []api.Signed {
	p := plain.at(size)
	good := func() api.Signed { return signedBy(logSeed, 5, p) }
	var all []api.Signed
	with := func(change func(s *api.Signed)) {
		s := good()
		change(&s)
		all = append(all, s)
	}
	all = append(all, api.Signed{}, api.Signed{Check: p.check()}, api.Signed{Sig: good().Sig}, signedBy(otherSeed, 5, p), signedBy(witnessSeed, 5, p))
	all = append(all, api.Signed{Check: p.check(), Sig: cosigOf(2, 5, p).Sig}) // a witness's own
	if g, why := cosign.Sign(seedOf(logSeed), 5, 2, p.check()); why == api.OK {
		all = append(all, api.Signed{Check: p.check(), Sig: g.Sig}) // the log's, but as a witness
	}
	for _, n := range []int{-1, size - 1, size + 1, size + 2, size + 8, 257, least, greatest, size + 1<<32, size - 1<<32} {
		with(func(s *api.Signed) { s.Check.Size = n })
	}
	for at := range 32 {
		with(func(s *api.Signed) { s.Check.Root[at] ^= 1 << (at % 8) })
	}
	for _, root := range [][]byte{nil, {}, good().Check.Root[:31], append(good().Check.Root, 0), []byte(plain.at(size + 1).root), []byte(fork.at(size + 9).root)} {
		with(func(s *api.Signed) { s.Check.Root = root })
	}
	for _, index := range []int{-1, 0, 4, 6, 13, 16, 5 + 16, 5 + 256, 5 + 1<<32, least, greatest} {
		with(func(s *api.Signed) { s.Sig.Index = index })
	}
	return append(all, notSignedParts(good)...)
}

// notSignedParts tells those of which a part or a hash of the path is another one, or lacks, or is there twice.
func notSignedParts(good func() api.Signed) []api.Signed {
	var all []api.Signed
	for which := range 2 {
		lists := func(s *api.Signed) *[][]byte { return []*[][]byte{&s.Sig.Parts, &s.Sig.Path}[which] }
		one := good()
		for i := range *lists(&one) {
			for _, change := range []func(l [][]byte) [][]byte{
				func(l [][]byte) [][]byte { l[i][i%32] ^= 1 << (i % 8); return l },
				func(l [][]byte) [][]byte { l[i] = nil; return l },
				func(l [][]byte) [][]byte { l[i] = l[i][:31]; return l },
				func(l [][]byte) [][]byte { l[i] = append(l[i], 0); return l },
				func(l [][]byte) [][]byte { return slices.Delete(l, i, i+1) },
				func(l [][]byte) [][]byte { return slices.Insert(l, i, l[i]) },
				func(l [][]byte) [][]byte { l[i], l[(i+1)%len(l)] = l[(i+1)%len(l)], l[i]; return l },
			} {
				s := good()
				*lists(&s) = change(*lists(&s))
				all = append(all, s)
			}
		}
		for _, l := range [][][]byte{nil, {}, {nil}, make([][]byte, len(*lists(&one))), make([][]byte, 1000)} {
			s := good()
			*lists(&s) = l
			all = append(all, s)
		}
	}
	return all
}

// P18.2, W1: what the log has not signed is ErrSign, whatever else is: of a larger one with the right growth, of the last one, cosigned or not, of a smaller one.
func TestWhatTheLogHasNotSigned(t *testing.T) {
	for _, last := range []int{0, 3} {
		for _, cosigned := range []bool{false, true} {
			for size := range 6 {
				name := fmt.Sprintf("P18.2: last %d, cosigned %v, shown %d", last, cosigned, size)
				w, d, k := onto(t, name, last, cosigned)
				for i, s := range notSigned(size) {
					if check.Verify(publicOf(logSeed), s) {
						t.Fatalf("%s, case %d: the log has signed it", name, i)
					}
					for _, g := range []api.Growth{plain.grow(min(last, size), size), {}} {
						cosignsNot(t, fmt.Sprintf("%s, case %d", name, i), w, s, g, api.ErrSign)
					}
				}
				untouched(t, name, w, d, k, last, cosigned)
			}
		}
	}
}

// P18.2: a witness of another log takes that one's, and the first one's are ErrSign.
func TestEachLogHasItsOwnWitness(t *testing.T) {
	d, k := roomy(t), roomy(t)
	w, why := witness.Open(d, k, 1, seedOf(witnessSeed), publicOf(otherSeed))
	answers(t, "P18.1: Open", why, api.OK)
	cosignsNot(t, "P18.2: another log", w, plain.signed(2), plain.grow(0, 2), api.ErrSign)
	cosigns(t, "P18.2: another log", w, signedBy(otherSeed, 9, plain.at(2)), plain.grow(0, 2), 0)
	cosignsNot(t, "P18.2: another log", w, plain.signed(3), plain.grow(2, 3), api.ErrSign)
	stands(t, "P18.2: another log", w, 1, plain.at(2), 1)
}

// someGrowths tells growths of many kinds, right ones among them.
func someGrowths(from, to int) []api.Growth {
	small, great := min(from, to), max(from, to)
	return []api.Growth{{}, plain.grow(small, great), {From: from, To: to}, {From: to, To: to}, {From: least, To: greatest}, {From: -1, To: -1}, {From: from, To: to, Path: make([][]byte, 3)}, {From: from, To: to, Path: [][]byte{make([]byte, 32)}}, {Path: make([][]byte, 5000)}, alien.grow(small, great)}
}

// P18.2: each size below the last one is ErrOld, with whatever growth and root: those that were cosigned, too.
func TestSmallerOnes(t *testing.T) {
	for _, last := range []int{1, 2, 3, 8, 9} {
		for _, cosigned := range []bool{false, true} {
			name := fmt.Sprintf("P18.2: last %d, cosigned %v", last, cosigned)
			w, d, k := onto(t, name, last, cosigned)
			for size := range last {
				for _, f := range faces() {
					for _, g := range someGrowths(last, size) {
						cosignsNot(t, name, w, f.signed(size), g, api.ErrOld)
					}
				}
			}
			untouched(t, name, w, d, k, last, cosigned)
		}
	}
}

// P18.2: one of the last one's size with another root is ErrFork, whatever the growth, of size 0, too, and whether the last one was cosigned or not.
func TestForks(t *testing.T) {
	for _, last := range []int{0, 1, 2, 3, 8, 256} {
		for _, cosigned := range []bool{false, true} {
			name := fmt.Sprintf("P18.2: last %d, cosigned %v", last, cosigned)
			w, d, k := onto(t, name, last, cosigned)
			others := []string{alien.at(last).root, fork.at(last).root, plain.at(20).root, plain.at(0).root, string(make([]byte, 32))}
			for bit := range 256 {
				root := []byte(plain.at(last).root)
				root[bit/8] ^= 1 << (bit % 8)
				if bit%17 == 0 {
					others = append(others, string(root))
				}
			}
			for _, root := range others {
				if root == plain.at(last).root {
					continue
				}
				for _, g := range someGrowths(last, last) {
					cosignsNot(t, name, w, signedBy(logSeed, 1, point{last, root}), g, api.ErrFork)
				}
			}
			untouched(t, name, w, d, k, last, cosigned)
		}
	}
}

// P18.2: the last one once more, since it was cosigned: the same cosignature, whatever the growth and with whichever key the log signed it; no key is taken, nothing is written.
func TestTheSameOneAgain(t *testing.T) {
	for _, last := range []int{0, 1, 3, 256} {
		name := fmt.Sprintf("P18.2: last %d, cosigned", last)
		w, d, k := onto(t, name, last, true)
		for key := range allKeys {
			for _, g := range someGrowths(last, last) {
				cosigns(t, name, w, signedBy(logSeed, key, plain.at(last)), g, 3)
			}
		}
		untouched(t, name, w, d, k, last, true)
		cosigns(t, name+", without power", w, plain.signed(last), api.Growth{}, 3)
	}
}

// P18.2: the last one, not cosigned since Open: with whatever growth it is cosigned with the next key, and the journal is not called; from then on the same cosignature is told.
func TestTheSameOneSinceOpen(t *testing.T) {
	for _, last := range []int{0, 1, 3, 256} {
		for i, g := range someGrowths(last, last) {
			name := fmt.Sprintf("P18.2: last %d, growth %d", last, i)
			w, d, k := onto(t, name, last, false)
			k.Arm(0)
			for range 2 {
				cosigns(t, name, w, signedBy(logSeed, i, plain.at(last)), g, 3)
				tells(t, name, k, used(4), 4*keySize, false)
			}
			k.Arm(1)
			untouched(t, name, w, d, k, last, true)
		}
	}
}

// P18.2: behind each Open anew the last one is cosigned with another key, until none is left.
func TestTheSameOneBehindEachOpen(t *testing.T) {
	d, k := kept(t, plain.lie(5)), roomy(t)
	for key := range allKeys {
		w := opened(t, "P18.2: behind each Open", d, k, 3, plain.at(5), key)
		for range 2 {
			cosigns(t, "P18.2: behind each Open", w, plain.signed(5), api.Growth{}, key)
			stands(t, "P18.2: behind each Open", w, 3, plain.at(5), key+1)
		}
	}
	w := opened(t, "P18.2: no key is left", d, k, 3, plain.at(5), allKeys)
	for range 2 {
		cosignsNot(t, "P18.2: no key is left", w, plain.signed(5), api.Growth{}, api.ErrUsed)
	}
	tells(t, "P18.2: no key is left", d, plain.lie(5), recSize, false)
	tells(t, "P18.2: no key is left", k, used(16), 16*keySize, false)
}

// P18.2: each cosignature verifies under a policy with the witness at its place, alone of all, and is of its checkpoint alone.
func TestCosignaturesVerify(t *testing.T) {
	for id := range allWitnesses {
		p := api.Policy{Log: publicOf(logSeed), Quorum: 1}
		for n := range allWitnesses {
			p.Witnesses = append(p.Witnesses, publicOf(20+n))
		}
		p.Witnesses[id] = publicOf(witnessSeed)
		other := api.Policy{Log: p.Log, Witnesses: slices.Clone(p.Witnesses), Quorum: 1}
		other.Witnesses[id] = publicOf(30)
		w := opened(t, "P18.2", roomy(t), roomy(t), id, plain.at(0), 0)
		for key, size := range []int{0, 1, 2, 5, 100, 256} {
			g, why := w.Cosign(plain.signed(size), plain.grow(w.Check().Size, size))
			c := w.Check()
			if why != api.OK || g.Witness != id || g.Sig.Index != key || !cosign.Verify(p, c, g) || !cosign.Met(p, c, g, g) {
				t.Errorf("P18.2: witness %d, size %d: witness %d, key %d, %v", id, size, g.Witness, g.Sig.Index, why)
			}
			if cosign.Verify(other, c, g) || cosign.Verify(p, plain.at(7).check(), g) || cosign.Verify(p, fork.at(size+3).check(), g) {
				t.Errorf("P18.2: witness %d, size %d: verifies as another one's, or of another one", id, size)
			}
		}
	}
}

// P18.2: Public is sign.Public of the seed, through all that is done.
func TestPublic(t *testing.T) {
	for _, n := range []int{witnessSeed, 7, 255} {
		w, why := witness.Open(roomy(t), roomy(t), 1, seedOf(n), publicOf(logSeed))
		answers(t, "P18.1: Open", why, api.OK)
		for size := range 3 {
			w.Cosign(plain.signed(size), plain.grow(max(size-1, 0), size))
			w.Cosign(fork.signed(7), api.Growth{})
			if string(w.Public()) != string(sign.Public(seedOf(n))) {
				t.Errorf("P18.2: Public of seed %d: %x", n, w.Public())
			}
		}
	}
}

// P18.2: from the first checkpoint until no key is left: each with the next key. Then it is ErrUsed, and the checkpoint is the last one all the same; opened anew, too.
func TestUntilNoKeyIsLeft(t *testing.T) {
	w, d, k := begun(t, "P18.2: each key")
	var sizes []int
	for key := range allKeys {
		size := 3 * (key + 1)
		sizes = append(sizes, size)
		cosigns(t, "P18.2: each key", w, plain.signed(size), plain.grow(size-3, size), key)
		stands(t, "P18.2: each key", w, 0, plain.at(size), key+1)
		tells(t, "P18.2: each key", d, plain.lie(sizes...), recSize*(key+1), false)
		tells(t, "P18.2: each key", k, used(key+1), keySize*(key+1), false)
	}
	cosigns(t, "P18.2: the last key", w, plain.signed(48), api.Growth{}, 15)
	for size := 50; size < 53; size++ {
		for range 2 {
			cosignsNot(t, "P18.2: no key is left", w, plain.signed(size), plain.grow(w.Check().Size, size), api.ErrUsed)
			stands(t, "P18.2: no key is left", w, 0, plain.at(size), 16)
		}
		sizes = append(sizes, size)
		tells(t, "P18.2: no key is left", d, plain.lie(sizes...), recSize*len(sizes), false)
		tells(t, "P18.2: no key is left", k, used(16), 16*keySize, false)
	}
	cosignsNot(t, "P18.2: no key is left", w, plain.signed(48), api.Growth{}, api.ErrOld)
	cosignsNot(t, "P18.2: no key is left", w, alien.signed(52), api.Growth{}, api.ErrFork)
	cosignsNot(t, "P18.2: no key is left", w, alien.signed(60), alien.grow(52, 60), api.ErrProof)
	opened(t, "P18.2: no key is left, anew", d, k, 0, plain.at(52), 16)
}
