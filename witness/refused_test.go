package witness_test

import (
	"fmt"
	"slices"
	"testing"

	"broadsheet/api"
	"broadsheet/journal"
	"broadsheet/keys"
	"broadsheet/witness"
)

// P18.2, R8: where several refusals apply, the first one that the chapter names is answered: each signature, size, root and growth, with each state of both disks, behind one that was cosigned and one that was not.
func TestWhichRefusalComesFirst(t *testing.T) {
	states := [][]step{{}, {{kind: doGrow, n: 0}}, {{kind: doArm, n: 1}}, {{kind: doArm, n: 2}}}
	keyStates := [][]step{{}, {{kind: doGrowKeys, n: 0}}, {{kind: doArmKeys, n: 1}}, {{kind: doArmKeys, n: 2}}}
	for _, cosigned := range []bool{false, true} {
		for _, used := range []int{3, 15, 16} {
			for _, state := range states {
				for _, keyState := range keyStates {
					for _, s := range eachShow() {
						b := benchHolding(t, fmt.Sprintf("P18.2: cosigned %v, %d keys used", cosigned, used), 1, used, plain.recsOf(5)...)
						well := b.plays(state...)
						if cosigned {
							well = well && b.plays(show(plain, 5))
						}
						if !well || !b.plays(keyState...) || !b.plays(s, s, show(plain, 5).with(none), show(plain, 4)) {
							return
						}
					}
				}
			}
		}
	}
}

// eachShow tells each signature with each size about 5, each face and each growth.
func eachShow() []step {
	var all []step
	for _, seed := range []int{logSeed, otherSeed} {
		for size := 4; size < 7; size++ {
			for _, f := range []*face{plain, fork} {
				for _, growth := range []int{right, none, turned} {
					all = append(all, show(f, size).by(seed).with(growth))
				}
			}
		}
	}
	return all
}

// P18.2: where the journal's disk is full: its refusal, and the witness and both disks are as they were; the last one is told as before. With just so much room again it is taken.
func TestWithoutRoom(t *testing.T) {
	for room := range recSize {
		name := fmt.Sprintf("P18.2: room for %d bytes", room)
		w, d, k := begun(t, name)
		cosigns(t, name, w, plain.signed(3), plain.grow(0, 3), 0)
		grows(t, d, room)
		k.Arm(1)
		for range 3 {
			cosignsNot(t, name, w, plain.signed(5), plain.grow(3, 5), api.ErrFull)
			stands(t, name, w, 0, plain.at(3), 1)
			tells(t, name, d, plain.lie(3), recSize, false)
			cosigns(t, name+", the last one", w, plain.signed(3), api.Growth{}, 0)
			cosignsNot(t, name+", a wrong growth", w, plain.signed(5), plain.grow(2, 5), api.ErrProof)
		}
		tells(t, name+", the keys", k, used(1), keySize, false)
		k.Arm(0)
		grows(t, d, recSize)
		cosigns(t, name+", room again", w, plain.signed(5), plain.grow(3, 5), 1)
		stands(t, name+", room again", w, 0, plain.at(5), 2)
		tells(t, name+", room again", d, plain.lie(3, 5), 2*recSize, false)
		cosignsNot(t, name+", no room for one more", w, plain.signed(6), plain.grow(5, 6), api.ErrFull)
		opened(t, name+", anew", d, k, 0, plain.at(5), 2)
	}
}

// P18.2: with no room at all the checkpoint of no leaves is cosigned: nothing is written of it.
func TestWithoutRoomOfNoLeaves(t *testing.T) {
	d, k := made(t, 0), made(t, keySize)
	w := opened(t, "P18.2: no room", d, k, 0, plain.at(0), 0)
	cosignsNot(t, "P18.2: no room", w, plain.signed(1), plain.grow(0, 1), api.ErrFull)
	cosigns(t, "P18.2: no leaves", w, plain.signed(0), plain.grow(0, 0), 0)
	cosigns(t, "P18.2: no leaves", w, plain.signed(0), plain.grow(0, 0), 0)
	tells(t, "P18.2: no leaves", d, "", 0, false)
	cosignsNot(t, "P18.2: no room", w, plain.signed(1), plain.grow(0, 1), api.ErrFull)
	grows(t, d, recSize)
	cosignsNot(t, "P18.2: no room for a key", w, plain.signed(1), plain.grow(0, 1), api.ErrFull)
	stands(t, "P18.2: no room for a key", w, 0, plain.at(1), 1)
}

// P18.2: where power goes at the journal's Append or its Sync, or is gone: its refusal, and the witness is as it was; no key is taken. Behind a Crash the checkpoint is there whole or not at all.
func TestWithoutPower(t *testing.T) {
	for call := range 3 {
		for keep := -1; keep < recSize+3; keep++ {
			name := fmt.Sprintf("P18.2: power goes at call %d, Crash(%d)", call, keep)
			w, d, k := begun(t, name)
			cosigns(t, name, w, plain.signed(3), plain.grow(0, 3), 0)
			text, last := plain.lie(3), plain.at(3)
			if d.Arm(call); call == 0 {
				goesDark(t, d)
			} else {
				text += plain.lie(5)
			}
			k.Arm(1)
			for range 2 {
				cosignsNot(t, name, w, plain.signed(5), plain.grow(3, 5), api.ErrFull)
				stands(t, name, w, 0, plain.at(3), 1)
				tells(t, name, d, text, recSize, true)
				cosigns(t, name+", the last one", w, plain.signed(3), api.Growth{}, 0)
			}
			cosignsNot(t, name+", a fork", w, alien.signed(3), alien.grow(0, 3), api.ErrFork)
			tells(t, name+", the keys", k, used(1), keySize, false)
			k.Arm(0)
			d.Crash(keep)
			if call > 0 && keep >= recSize {
				last = plain.at(5)
			}
			w = opened(t, name+", anew", d, k, 0, last, 1)
			cosigns(t, name+", anew", w, plain.signed(5), plain.grow(last.size, 5), 1)
			tells(t, name+", anew", d, plain.lie(3, 5), 2*recSize, false)
		}
	}
}

// P18.2: where the keys' disk is full: its refusal, but the checkpoint is written, synced and the last one, and what was cosigned ahead of it is told for it no more. With room again it is cosigned with the key that was not taken, whatever the growth.
func TestWithoutRoomForAKey(t *testing.T) {
	for room := range keySize {
		name := fmt.Sprintf("P18.2: room for %d bytes of a key", room)
		w, d, k := begun(t, name)
		cosigns(t, name, w, plain.signed(3), plain.grow(0, 3), 0)
		grows(t, k, room)
		for i := range 3 {
			cosignsNot(t, name, w, plain.signed(5), plain.grow(3, 5), api.ErrFull)
			stands(t, name, w, 0, plain.at(5), 1)
			tells(t, name, d, plain.lie(3, 5), 2*recSize, false)
			tells(t, name+", the keys", k, used(1), keySize, false)
			cosignsNot(t, name+", the one ahead", w, plain.signed(3), plain.grow(0, 3), api.ErrOld)
			cosignsNot(t, name+", a fork", w, fork.signed(5), fork.grow(3, 5), api.ErrFork)
			if i == 0 {
				d.Arm(1) // from here on nothing is written
			}
		}
		armedSo(t, name, d, 1)
		grows(t, k, keySize)
		for range 2 {
			cosigns(t, name+", room again", w, plain.signed(5), api.Growth{}, 1)
			stands(t, name+", room again", w, 0, plain.at(5), 2)
		}
		tells(t, name+", room again", k, used(2), 2*keySize, false)
	}
}

// P18.2: the same, and then a larger one: it is the last one then, and the one between was never cosigned.
func TestALargerOneBehindARefusedKey(t *testing.T) {
	w, d, k := begun(t, "P18.2: a larger one")
	cosigns(t, "P18.2: a larger one", w, plain.signed(3), plain.grow(0, 3), 0)
	grows(t, k, 0)
	cosignsNot(t, "P18.2: a larger one", w, plain.signed(5), plain.grow(3, 5), api.ErrFull)
	cosignsNot(t, "P18.2: a larger one", w, plain.signed(6), plain.grow(3, 6), api.ErrProof)
	grows(t, k, keySize)
	cosigns(t, "P18.2: a larger one", w, plain.signed(6), plain.grow(5, 6), 1)
	tells(t, "P18.2: a larger one", d, plain.lie(3, 5, 6), 3*recSize, false)
	cosignsNot(t, "P18.2: a larger one", w, plain.signed(5), plain.grow(3, 5), api.ErrOld)
	opened(t, "P18.2: a larger one, anew", d, k, 0, plain.at(6), 2)
}

// P18.2: where power goes at either call of the keys' disk, or is gone: ErrFull, and the checkpoint is written, synced and the last one. Behind a Crash of that disk alone it is cosigned with the next key, which may be one further.
func TestWithoutPowerForAKey(t *testing.T) {
	for call := range 3 {
		for keep := -1; keep < keySize+2; keep++ {
			name := fmt.Sprintf("P18.2: the keys' power goes at call %d, Crash(%d)", call, keep)
			w, d, k := begun(t, name)
			cosigns(t, name, w, plain.signed(3), plain.grow(0, 3), 0)
			text, next := used(1), 1
			if k.Arm(call); call == 0 {
				goesDark(t, k)
			} else {
				text = used(2)
			}
			for range 2 {
				cosignsNot(t, name, w, plain.signed(5), plain.grow(3, 5), api.ErrFull)
				stands(t, name, w, 0, plain.at(5), 1)
				tells(t, name, d, plain.lie(3, 5), 2*recSize, false)
				tells(t, name+", the keys", k, text, keySize, true)
			}
			if call > 0 && keep >= keySize {
				next = 2
			}
			k.Crash(keep)
			w = opened(t, name+", anew", d, k, 0, plain.at(5), next)
			cosigns(t, name+", anew", w, plain.signed(5), api.Growth{}, next)
			tells(t, name+", anew", k, used(next+1), keySize*(next+1), false)
		}
	}
}

// P18.2: what is written ahead of what: the checkpoint is there and synced ahead of the first call for a key, and no key is taken where it is not.
func TestTheCheckpointIsWrittenAheadOfTheKey(t *testing.T) {
	for arm := 1; arm < 4; arm++ {
		for keyArm := 1; keyArm < 4; keyArm++ {
			name := fmt.Sprintf("P18.2: Arm(%d), the keys' Arm(%d)", arm, keyArm)
			w, d, k := begun(t, name)
			d.Arm(arm)
			k.Arm(keyArm)
			want := api.ErrFull
			if arm > 2 && keyArm > 2 {
				want = api.OK
			}
			_, why := w.Cosign(plain.signed(2), plain.grow(0, 2))
			answers(t, name, why, want)
			if arm < 3 {
				tells(t, name, d, plain.lie(2), 0, true)
				tells(t, name+", the keys", k, "", 0, false)
				armedSo(t, name+", the keys", k, keyArm)
				continue
			}
			tells(t, name, d, plain.lie(2), recSize, false)
			tells(t, name+", the keys", k, used(1), []int{0, 0, 0, keySize}[keyArm], keyArm < 3)
			armedSo(t, name, d, 1) // two calls were made
		}
	}
}

// P18.2: Cosign makes the calls that a journal's Add and then a box's Take make, and answers their refusals: with each Arm and limit, one held against the other.
func TestCosignIsAnAddAndATake(t *testing.T) {
	for arm := range 6 {
		for keyArm := range 5 {
			for _, limit := range []int{0, recSize - 1, recSize, 2*recSize - 1, 500} {
				for _, keyLimit := range []int{0, keySize, 2*keySize - 1, 500} {
					if !isAnAddAndATake(t, arm, keyArm, limit, keyLimit) {
						return
					}
				}
			}
		}
	}
}

// isAnAddAndATake shows three that grow to a witness, and does the same by a journal and a box. It tells whether all was well.
func isAnAddAndATake(t *testing.T, arm, keyArm, limit, keyLimit int) bool {
	t.Helper()
	d, k, otherD, otherK := made(t, limit), made(t, keyLimit), made(t, limit), made(t, keyLimit)
	w := opened(t, "P18.2", d, k, 0, plain.at(0), 0)
	j, _, _ := journal.Open(otherD)
	box, _ := keys.Open(otherK)
	d.Arm(arm)
	otherD.Arm(arm)
	k.Arm(keyArm)
	otherK.Arm(keyArm)
	for size := 1; size < 4; size++ {
		from := w.Check().Size
		key, want := 0, j.Add([]byte(plain.recsOf(size)[0]))
		if want == api.OK {
			key, want = box.Take()
		}
		g, why := w.Cosign(plain.signed(size), plain.grow(from, size))
		if why != want || g.Sig.Index != key || told(d) != told(otherD) || told(k) != told(otherK) || w.KeysLeft() != box.Left() {
			t.Errorf("P18.2: Arm(%d), keys' Arm(%d), limits %d, %d, size %d: key %d, %v, %s, %s, by the parts %d, %v, %s, %s", arm, keyArm, limit, keyLimit, size, g.Sig.Index, why, told(d), told(k), key, want, told(otherD), told(otherK))
			return false
		}
	}
	return true
}

// R3: calls that are refused ahead of the journal, and those that tell what was told, change nothing that any call tells later: one witness with them, one without.
func TestRefusedCallsChangeNothing(t *testing.T) {
	from := []step{show(plain, 0), show(plain, 2), show(plain, 3), show(fork, 6), {kind: doOpen}, {kind: doArm, n: 2}, {kind: doArmKeys, n: 1}, {kind: doGrow, n: recSize}, {kind: doCrash, n: 20}}
	odd := func(b *bench) {
		if b.w == nil {
			return
		}
		n := b.a.last.size
		for _, s := range []step{show(plain, n+1).by(otherSeed), show(plain, n).by(otherSeed), show(plain, n+2).with(none), show(alien, n+9).with(past), show(plain, n+1).with(past)} {
			b.w.Cosign(signedBy(s.seed, 3, s.face.at(s.n)), s.shown(n))
		}
		for size := range n {
			b.w.Cosign(plain.signed(size), plain.grow(0, size))
		}
		b.w.Cosign(signedBy(logSeed, 3, point{n, string(make([]byte, 32))}), api.Growth{From: n, To: n})
		b.w.Cosign(api.Signed{}, api.Growth{})
		if b.a.given >= 0 {
			b.w.Cosign(signedBy(logSeed, 3, b.a.last), api.Growth{})
		}
		witness.Open(b.d, b.k, 4, nil, nil)
	}
	eachRowAtOnce(t, from, 3, func(t *testing.T, row []step) bool {
		one, other := benchOf(t, "R3", 1, 3*recSize, 500), benchOf(t, "R3", 1, 3*recSize, 500)
		for _, s := range slices.Concat(row, []step{show(plain, 7)}) {
			odd(one)
			if !one.plays(s) || !other.plays(s) || told(one.d) != told(other.d) || told(one.k) != told(other.k) {
				t.Errorf("R3: refused calls ahead of each of %v", row)
				return false
			}
		}
		return one.ends() && other.ends()
	})
}
