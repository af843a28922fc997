package witness_test

import (
	"fmt"
	"math/rand"
	"strings"
	"testing"

	"broadsheet/api"
	"broadsheet/check"
	"broadsheet/cosign"
	"broadsheet/disk"
	"broadsheet/proof"
	"broadsheet/witness"
)

// life tells the steps of a life of a witness: it is opened, shown the last one, two that grow, one that does not, one that is old, and the last one again.
func life(last int) []step {
	return []step{{kind: doOpen}, show(plain, last).with(none), show(plain, last+1), show(alien, last+2), show(plain, last+3), show(plain, last), show(plain, last+3).with(none)}
}

// P18.3, W3: power that goes at each call of the disk of checkpoints in a life, its Open's included, a Crash with each keep from none to more than all, and the same in the next life: all is as the account says.
func TestPowerGoesAtEachCall(t *testing.T) {
	for one := range 6 {
		t.Run(fmt.Sprint(one), func(t *testing.T) {
			t.Parallel()
			for other := range 6 {
				for keep := -1; keep < recSize+3; keep++ {
					b := benchOf(t, fmt.Sprintf("P18.3: Arm(%d), Arm(%d)", one, other), 1, 500, 500)
					well := b.plays(step{kind: doArm, n: one}) && b.plays(life(1)...) && b.plays(step{kind: doCrash, n: keep}, step{kind: doArm, n: other}) &&
						b.plays(life(b.a.last.size)...) && b.plays(step{kind: doCrashChecks, n: recSize + 1 - keep}) && b.ends()
					if !well {
						return
					}
				}
			}
		})
	}
}

// P18.3, W3: the same with the keys' disk.
func TestPowerGoesAtEachCallOfTheKeys(t *testing.T) {
	for one := range 7 {
		t.Run(fmt.Sprint(one), func(t *testing.T) {
			t.Parallel()
			for other := range 7 {
				for keep := -1; keep < keySize+3; keep++ {
					b := benchOf(t, fmt.Sprintf("P18.3: the keys' Arm(%d), Arm(%d)", one, other), 1, 500, 500)
					well := b.plays(step{kind: doArmKeys, n: one}) && b.plays(life(1)...) && b.plays(step{kind: doCrashKeys, n: keep}, step{kind: doArmKeys, n: other}) &&
						b.plays(life(b.a.last.size)...) && b.plays(step{kind: doCrash, n: keySize + 1 - keep}) && b.ends()
					if !well {
						return
					}
				}
			}
		})
	}
}

// P18.3, W3: power that goes at calls of both.
func TestPowerGoesAtCallsOfBoth(t *testing.T) {
	for one := range 6 {
		for other := range 7 {
			for _, keep := range []int{-1, 0, 1, 7, 8, 9, 10, recSize - 1, recSize, recSize + 1, 2 * recSize, 999} {
				b := benchOf(t, fmt.Sprintf("P18.3: Arm(%d), and the keys' Arm(%d)", one, other), 1, 500, 500)
				arm := []step{{kind: doArm, n: one}, {kind: doArmKeys, n: other}}
				well := b.plays(arm...) && b.plays(life(1)...) && b.plays(step{kind: doCrash, n: keep}) &&
					b.plays(arm...) && b.plays(life(b.a.last.size)...) && b.plays(step{kind: doCrash, n: keep}) && b.ends()
				if !well {
					return
				}
			}
		}
	}
}

// keeper is who keeps a witness through crashes, and notes what it told: P18.3, W2 and W3 by their words alone.
type keeper struct {
	t     *testing.T
	name  string
	d, k  *disk.Disk
	p     api.Policy
	given []point // that were cosigned, in their order
	shown []point // all that were shown with the log's signature
	keys  []point // of which checkpoint which key was told; size -1: of none yet
}

func newKeeper(t *testing.T, name string) *keeper {
	k := &keeper{t: t, name: name, d: roomy(t), k: roomy(t), p: api.Policy{Log: publicOf(logSeed), Witnesses: [][]byte{publicOf(witnessSeed)}, Quorum: 1}}
	for range allKeys {
		k.keys = append(k.keys, point{-1, ""})
	}
	return k
}

// fails ends the test.
func (k *keeper) fails(form string, args ...any) {
	k.t.Helper()
	k.t.Fatalf("P18.3: %s: %s", k.name, fmt.Sprintf(form, args...))
}

// opens tells the witness, if it is opened: a refusal is for power alone.
func (k *keeper) opens() *witness.Witness {
	k.t.Helper()
	w, why := witness.Open(k.d, k.k, 0, seedOf(witnessSeed), publicOf(logSeed))
	if why != api.OK {
		if why != api.ErrFull || !k.d.Down() && !k.k.Down() {
			k.fails("Open: %v", why)
		}
		return nil
	}
	k.asks(w)
	return w
}

// asks holds that the last checkpoint is one that was shown, and grows from each that was cosigned.
func (k *keeper) asks(w *witness.Witness) {
	k.t.Helper()
	now := pointOf(w.Check())
	there := now == plain.at(0)
	for _, p := range k.shown {
		there = there || p == now
	}
	if !there {
		k.fails("Check is %v, which nobody has shown", now)
	}
	for _, p := range k.given {
		k.grows(p, now)
	}
}

// grows holds that there is a proof of growth from one to the other.
func (k *keeper) grows(from, to point) {
	k.t.Helper()
	for _, f := range faces() {
		if f.at(from.size) == from && f.at(to.size) == to && from.size <= to.size {
			if !proof.CheckGrow(f.grow(from.size, to.size), []byte(from.root), []byte(to.root)) {
				k.fails("from %v to %v does not check", from, to)
			}
			return
		}
	}
	k.fails("%v was cosigned, and then %v", from, to)
}

// shows shows a checkpoint, and notes what is told of it.
func (k *keeper) shows(w *witness.Witness, s step) {
	k.t.Helper()
	p := s.face.at(s.n)
	signed := signedBy(s.seed, s.n%allKeys, p)
	if check.Verify(k.p.Log, signed) {
		k.shown = append(k.shown, p)
	}
	g, why := w.Cosign(signed, s.shown(w.Check().Size))
	if k.asks(w); why != api.OK {
		return
	}
	if !cosign.Verify(k.p, p.check(), g) || pointOf(w.Check()) != p || s.seed != logSeed {
		k.fails("%v is cosigned, and Check is %v", p, pointOf(w.Check()))
	}
	if was := k.keys[g.Sig.Index]; was != p && was.size >= 0 {
		k.fails("key %d signs %v, and then %v", g.Sig.Index, was, p)
	}
	k.keys[g.Sig.Index] = p
	if !synced(k.k, string([]byte{byte(g.Sig.Index)})) || p.size > 0 && !synced(k.d, rec(uint32(p.size), p.root)) {
		k.fails("%v is cosigned, and it or its key is not synced", p)
	}
	for _, ahead := range k.given {
		k.grows(ahead, p)
	}
	k.given = append(k.given, p)
}

// synced: does this record stay through any crash?
func synced(d *disk.Disk, rec string) bool {
	return strings.Contains(string(d.Bytes()[:d.Synced()]), lies(rec))
}

// lives opens the witness, shows what it is told to, and crashes both disks. Power goes at the n-th call of the one, and at the m-th of the other.
func (k *keeper) lives(n, m, keep, other int, r *rand.Rand) {
	k.t.Helper()
	k.d.Arm(n)
	k.k.Arm(m)
	if w := k.opens(); w != nil {
		for range 1 + r.Intn(7) {
			s := anyShow(r, pointOf(w.Check()))
			k.shows(w, s)
			if r.Intn(4) == 0 {
				k.shows(w, s) // once more
			}
		}
	}
	k.d.Crash(keep)
	k.k.Crash(other)
}

// P18.3, W2, W3, by their words alone: lives with power that goes at any call of either disk, crashes with any keep, and whatever is shown.
func TestWhatWasCosignedGrows(t *testing.T) {
	for part := range 8 {
		t.Run(fmt.Sprint(part), func(t *testing.T) {
			t.Parallel()
			r := rand.New(rand.NewSource(int64(18 + part)))
			for i := range 30 {
				k := newKeeper(t, fmt.Sprintf("run %d", i))
				for range 10 {
					k.lives(r.Intn(10), r.Intn(12), r.Intn(recSize+3)-1, r.Intn(keySize+3)-1, r)
				}
				k.opens()
			}
		})
	}
}

// P18.3: behind a crash, with each Arm of either disk and each keep: no smaller one than the last that was cosigned, and no other one of its size, is cosigned; with the face that it was the witness goes on.
func TestBehindACrashTheForkIsRefused(t *testing.T) {
	for arm := range 4 {
		for keyArm := range 4 {
			for keep := -1; keep < recSize+2; keep += 3 {
				name := fmt.Sprintf("P18.3: Arm(%d), the keys' Arm(%d), Crash(%d)", arm, keyArm, keep)
				w, d, k := begun(t, name)
				cosigns(t, name, w, plain.signed(3), plain.grow(0, 3), 0)
				d.Arm(arm)
				k.Arm(keyArm)
				_, why := w.Cosign(plain.signed(5), plain.grow(3, 5))
				d.Crash(keep)
				k.Crash(keep)
				w, _ = witness.Open(d, k, 0, seedOf(witnessSeed), publicOf(logSeed))
				last := w.Check().Size
				if last != 3 && last != 5 || why == api.OK && last != 5 {
					t.Fatalf("%s: Check %v behind %v", name, w.Check(), why)
				}
				for to := range 9 {
					want := map[bool]api.Errno{true: api.ErrOld, false: api.ErrProof}[to < last]
					if to == last {
						want = api.ErrFork
					}
					if to == 0 && last == 0 {
						continue
					}
					for from := range to + 1 {
						cosignsNot(t, name, w, alien.signed(to), alien.grow(from, to), want)
					}
				}
				cosigns(t, name+", the same face", w, plain.signed(8), plain.grow(last, 8), allKeys-w.KeysLeft())
			}
		}
	}
}

// P18.3, W3: a row of growths with a crash behind each: nothing of it is lost, whatever is kept.
func TestACrashBehindEach(t *testing.T) {
	for _, keep := range []int{least, -1, 0, 1, 8, recSize, greatest} {
		w, d, k := begun(t, "P18.3: a crash behind each")
		from := 0
		for key := range allKeys {
			to := from + 1 + key
			cosigns(t, "P18.3: a crash behind each", w, plain.signed(to), plain.grow(from, to), key)
			d.Crash(keep)
			k.Crash(keep)
			w, from = opened(t, "P18.3: a crash behind each", d, k, 0, plain.at(to), key+1), to
		}
	}
}
