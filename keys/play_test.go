package keys_test

import (
	"fmt"
	"math"
	"math/rand"
	"testing"

	"broadsheet/api"
	"broadsheet/disk"
	"broadsheet/keys"
)

// shortSteps tells the steps of which short rows are made.
func shortSteps() []step {
	return []step{
		{kind: doTake}, {kind: doArm, n: 1}, {kind: doArm, n: 2}, {kind: doArm, n: 3}, {kind: doArm}, {kind: doOpen},
		{kind: doCrash, n: -1}, {kind: doCrash, n: 5}, {kind: doCrash, n: 8}, {kind: doCrash, n: 9}, {kind: doGrow, n: 8}, {kind: doGrow, n: 9},
	}
}

// P14.1, P14.2: each row of five of these steps, on a disk with room for two keys, held against the account.
func TestEachShortRow(t *testing.T) {
	eachRow(shortSteps(), 5, func(row []step) bool {
		return begun(t, "P14.1, P14.2", 20).plays(row...)
	})
}

// P14.1: each row of three of these steps near the last keys.
func TestEachShortRowNearTheLastKey(t *testing.T) {
	for n := all - 2; n <= all; n++ {
		eachRow(shortSteps(), 3, func(row []step) bool {
			b := begun(t, "P14.1, P14.2", size*all)
			for range n {
				b.plays(step{kind: doTake})
			}
			return b.plays(row...) && b.plays(step{kind: doTake}, step{kind: doCrash, n: 9}, step{kind: doOpen}, step{kind: doTake})
		})
	}
}

// P14.2: power that goes at each of the disk's calls of a short life, a Crash with each keep, power that goes again at each call of the next life, its Open's included, and once more a Crash and a life.
func TestPowerGoesAtEachCall(t *testing.T) {
	life := []step{{kind: doOpen}, {kind: doTake}, {kind: doTake}, {kind: doTake}, {kind: doOpen}, {kind: doTake}}
	for one := range 10 {
		for other := range 10 {
			for keep := -1; keep < 12; keep++ {
				for again := -1; again < 12; again += 3 {
					b := begun(t, fmt.Sprintf("P14.2: Arm(%d), Arm(%d)", one, other), size*all)
					well := b.plays(step{doArm, one}) && b.plays(life...) && b.plays(step{doCrash, keep}, step{doArm, other}) &&
						b.plays(life...) && b.plays(step{doCrash, again}) && b.plays(life...)
					if !well {
						return
					}
				}
			}
		}
	}
}

// P14.2: power that goes at each call of a life of all keys, with each keep, and then all keys that are left.
func TestPowerGoesAtEachCallOfALongLife(t *testing.T) {
	for arm := range 2*all + 3 {
		for keep := -1; keep < 12; keep++ {
			b := begun(t, fmt.Sprintf("P14.2: Arm(%d), Crash(%d)", arm, keep), size*all)
			b.plays(step{doArm, arm})
			for range all + 2 {
				b.plays(step{kind: doTake})
			}
			b.plays(step{doCrash, keep}, step{kind: doOpen})
			for range all + 2 {
				b.plays(step{kind: doTake})
			}
			if !b.plays(step{doCrash, keep}, step{kind: doOpen}) || t.Failed() {
				return
			}
		}
	}
}

// anyStep tells a step of any kind, many Takes among them.
func anyStep(r *rand.Rand) step {
	switch kind := r.Intn(2 * kinds); kind {
	case doArm:
		return step{doArm, r.Intn(7) - 1}
	case doCrash:
		keeps := []int{math.MinInt, -1, 0, 1, 7, 8, 9, 10, r.Intn(12), math.MaxInt}
		return step{doCrash, keeps[r.Intn(len(keeps))]}
	case doGrow:
		return step{doGrow, r.Intn(30)}
	case doOpen, kinds:
		return step{kind: doOpen}
	}
	return step{kind: doTake}
}

// P14.1, P14.2: long runs of steps of all kinds, held against the account.
func TestLongRuns(t *testing.T) {
	r := rand.New(rand.NewSource(14))
	for i := range 3000 {
		b := begun(t, fmt.Sprintf("P14.1, P14.2: run %d", i), r.Intn(size*all+9))
		for range 80 {
			if !b.plays(anyStep(r)) {
				return
			}
		}
	}
}

// owner is who takes keys, and notes which ones were told: P14.2 by its words alone.
type owner struct {
	t    *testing.T
	name string
	d    *disk.Disk
	told map[int]int // by key: how often
	top  int         // the highest one; -1: none
}

func newOwner(t *testing.T, name string) *owner {
	return &owner{t: t, name: name, d: made(t, size*all), told: map[int]int{}, top: -1}
}

// lives opens a box, takes some keys, and crashes. Power goes at the n-th of the disk's calls.
func (o *owner) lives(n, takes, keep int) {
	o.t.Helper()
	o.d.Arm(n)
	b, why := keys.Open(o.d)
	if why == api.OK {
		if b.Next() <= o.top {
			o.t.Fatalf("P14.2: %s: Next %d behind a crash, %d was told", o.name, b.Next(), o.top)
		}
		for range takes {
			o.takes(b)
		}
	} else if why != api.ErrFull || !o.d.Down() {
		o.t.Fatalf("P14.2: %s: Open: %v", o.name, why)
	}
	o.d.Crash(keep)
}

// takes takes one key: it was told never, and its record is synced.
func (o *owner) takes(b *keys.Box) {
	o.t.Helper()
	key, why := b.Take()
	if why != api.OK {
		return
	}
	o.told[key]++
	if o.told[key] > 1 || key < 0 || key >= all {
		o.t.Fatalf("P14.2: %s: key %d, told %d times", o.name, key, o.told[key])
	}
	o.top = max(o.top, key)
	if o.d.Synced() < size*(key+1) {
		o.t.Fatalf("P14.2: %s: key %d was told, and %d bytes are synced", o.name, key, o.d.Synced())
	}
}

// P14.2, W3, by its words alone: through lives with power that goes at any call and crashes with any keep no key is told twice, and those that were told are on the disk.
func TestNoKeyIsToldTwice(t *testing.T) {
	r := rand.New(rand.NewSource(3))
	for i := range 5000 {
		o := newOwner(t, fmt.Sprintf("run %d", i))
		for range 14 {
			o.lives(r.Intn(9), r.Intn(5), r.Intn(14)-1)
		}
	}
}

// P14.2, W3: the same life again and again, with each Arm, each number of Takes and each keep.
func TestNoKeyIsToldTwiceInLivesThatAreAlike(t *testing.T) {
	for n := range 9 {
		for takes := range 6 {
			for keep := -1; keep < 12; keep++ {
				o := newOwner(t, fmt.Sprintf("Arm(%d), %d Takes, Crash(%d)", n, takes, keep))
				for range 20 {
					o.lives(n, takes, keep)
				}
			}
		}
	}
}

// P14.2: a key may be lost: lives in which power always goes at the Sync use keys up and tell none.
func TestKeysMayBeLost(t *testing.T) {
	d := made(t, size*all)
	for key := range all {
		b := opened(t, "P14.2: lost", d, key)
		d.Arm(2)
		takesNone(t, "P14.2: lost", b, api.ErrFull, key)
		d.Crash(size)
	}
	takesNone(t, "P14.2: all are lost", opened(t, "P14.2: lost", d, all), api.ErrUsed, all)
}

// P14.2: without a crash that keeps it a key whose Take was refused is told later, once.
func TestARefusedKeyIsToldLater(t *testing.T) {
	d := made(t, size*all)
	for range 30 {
		b := opened(t, "P14.2: refused", d, 0)
		d.Arm(1)
		takesNone(t, "P14.2: refused", b, api.ErrFull, 0)
		d.Crash(size - 1)
	}
	goesOn(t, "P14.2: told at last", opened(t, "P14.2: refused", d, 0), 0)
}
