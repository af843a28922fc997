package front_test

import (
	"fmt"
	"math/rand"
	"slices"
	"testing"

	"broadsheet/api"
	"broadsheet/disk"
	"broadsheet/front"
	"broadsheet/ledger"
)

// life tells the steps of the n-th life of a front: three are submitted, of which one is there already, and two Steps are made.
func life(n int) []step {
	return []step{
		{kind: doOpen}, submit(item(1), 0), submit(item(10*n+2), 1), tick(1), submit(item(10*n+2), 2), submit(item(10*n+3), 2), tick(20), submit(item(10*n+4), 21), tick(30),
	}
}

// P17.3, W3: power that goes at each call of the front's disk in a life, its Open's included, a Crash with each keep from none to more than all, and the same in the next life: all is as the account says.
func TestPowerGoesAtEachCall(t *testing.T) {
	for one := range 8 {
		for other := range 9 {
			for keep := -1; keep < itemSize+3; keep++ {
				b := benchOf(t, fmt.Sprintf("P17.3: Arm(%d), Arm(%d)", one, other), usual, 2000, 2000)
				well := b.plays(step{kind: doArm, n: one}) && b.plays(life(0)...) && b.plays(step{kind: doCrash, n: keep}) &&
					b.plays(step{kind: doArm, n: other}) && b.plays(life(1)...) && b.plays(step{kind: doCrashFront, n: itemSize + 1 - keep}) && b.plays(life(2)...) && b.drains()
				if !well {
					return
				}
			}
		}
	}
}

// P17.3, W3: the same with the ledger's disk, whose batches are of one or two.
func TestPowerGoesAtEachCallOfTheLedger(t *testing.T) {
	size := len(written(items(1, 2)))
	for one := range 6 {
		for other := range 6 {
			for keep := -1; keep < size+3; keep++ {
				b := benchOf(t, fmt.Sprintf("P17.3: the ledger's Arm(%d), Arm(%d)", one, other), usual, 2000, 2000)
				well := b.plays(step{kind: doArmLog, n: one}) && b.plays(life(0)...) && b.plays(step{kind: doCrashLog, n: keep}) &&
					b.plays(step{kind: doArmLog, n: other}) && b.plays(life(1)...) && b.plays(step{kind: doCrash, n: size + 1 - keep}) && b.plays(life(2)...) && b.drains()
				if !well {
					return
				}
			}
		}
	}
}

// P17.3, W3: power that goes at any call of both disks.
func TestPowerGoesAtCallsOfBoth(t *testing.T) {
	for one := range 8 {
		for other := range 6 {
			for _, keep := range []int{-1, 0, 7, 8, 30, itemSize - 1, itemSize, 61, 62, 109, 110, 111, 999} {
				b := benchOf(t, fmt.Sprintf("P17.3: Arm(%d), and the ledger's Arm(%d)", one, other), usual, 2000, 2000)
				arm := []step{{kind: doArm, n: one}, {kind: doArmLog, n: other}}
				well := b.plays(arm...) && b.plays(life(0)...) && b.plays(step{kind: doCrash, n: keep}) &&
					b.plays(arm...) && b.plays(life(1)...) && b.plays(step{kind: doCrash, n: keep}) && b.plays(life(2)...) && b.drains()
				if !well {
					return
				}
			}
		}
	}
}

// P17.2: no call of a front touches the disk of the ledger's keys.
func TestKeysAreNotTouched(t *testing.T) {
	ld, k := roomy(t), roomy(t)
	l, why := ledger.Open(ld, k, seedOf(1))
	answers(t, "P15.1: Open", why, api.OK)
	k.Arm(1)
	d := roomy(t)
	f := opened(t, "P17.2: keys", d, l, usual, 0)
	accepts(t, "P17.2: keys", f, 0, 0, items(1, 3)...)
	steps(t, "P17.2: keys", f, 0, 0, 1)
	submits(t, "P17.2: keys", f, item(1), 0, api.Duplicate, 0)
	opened(t, "P17.2: keys", d, l, usual, 1, items(1, 3)...)
	tells(t, "P17.2: keys", k, "", 0, false)
	armedSo(t, "P17.2: keys", k, 1)
}

// keeper is who keeps a front and its ledger through crashes, and notes what was told: P17.3 and W3 by their words alone.
type keeper struct {
	t        *testing.T
	name     string
	s        setting
	d, ld    *disk.Disk
	receipts map[int]string // that were told
	leaves   []string       // that a Step told
	maybe    []string       // that were submitted, and not Accepted
	next     int
}

func newKeeper(t *testing.T, name string, s setting) *keeper {
	return &keeper{t: t, name: name, s: s, d: roomy(t), ld: roomy(t), receipts: map[int]string{}}
}

// fails ends the test.
func (k *keeper) fails(form string, args ...any) {
	k.t.Helper()
	k.t.Fatalf("P17.3: %s, %+v: %s", k.name, k.s, fmt.Sprintf(form, args...))
}

// opens tells the front and its ledger, if both are opened: a refusal is for power alone.
func (k *keeper) opens() (*front.Front, *ledger.Ledger) {
	k.t.Helper()
	l, why := ledger.Open(k.ld, made(k.t, 0), seedOf(1))
	if why != api.OK {
		if !k.ld.Down() {
			k.fails("the ledger: %v", why)
		}
		return nil, nil
	}
	f, why := front.Open(k.d, l, k.s.room, k.s.size, k.s.wait)
	if why != api.OK {
		if !k.d.Down() || why != api.ErrFull {
			k.fails("Open: %v", why)
		}
		return nil, nil
	}
	k.asks(f, l)
	return f, l
}

// asks holds that each receipt has its number, that none is there that nobody submitted, and that each of them is in the ledger or waits.
func (k *keeper) asks(f *front.Front, l *ledger.Ledger) {
	k.t.Helper()
	for n, text := range k.receipts {
		if b, ok := f.Receipt(n); !ok || string(b) != text {
			k.fails("receipt %d is lost", n)
		}
	}
	lacks := 0
	for n := range f.Receipts() {
		b, _ := f.Receipt(n)
		if _, there := k.receipts[n]; !there && !slices.Contains(k.maybe, string(b)) {
			k.fails("receipt %d: nobody has submitted %s", n, numbers([]string{string(b)}))
		}
		if _, there := l.Find(b); !there {
			lacks++
		}
	}
	if f.Waits() != lacks {
		k.fails("%d wait, and the ledger lacks %d", f.Waits(), lacks)
	}
	if got := leavesOf(l); len(got) < len(k.leaves) || !slices.Equal(got[:len(k.leaves)], k.leaves) {
		k.fails("the ledger has %s, and Steps told %s", numbers(got), numbers(k.leaves))
	}
}

// lives opens the front, submits so many with a Step behind each, and crashes both disks. Power goes at the n-th call of the front's disk, and at the m-th of the ledger's.
func (k *keeper) lives(n, m, rounds, keep, other int) {
	k.t.Helper()
	k.d.Arm(n)
	k.ld.Arm(m)
	if f, l := k.opens(); f != nil {
		for range rounds {
			k.submits(f)
			k.steps(f, l)
		}
	}
	k.d.Crash(keep)
	k.ld.Crash(other)
}

// submits submits a new manifest, and notes what is told of it.
func (k *keeper) submits(f *front.Front) {
	k.t.Helper()
	k.next++
	text := item(k.next)
	a := f.Submit([]byte(text), k.next)
	if a.Kind != api.Accepted {
		k.maybe = append(k.maybe, text)
		return
	}
	if was, there := k.receipts[a.Number]; there || k.d.Synced() != k.d.Size() {
		k.fails("receipt %d, of %s, is told again, or is not synced", a.Number, numbers([]string{was}))
	}
	k.receipts[a.Number] = text
}

// steps makes a Step, and notes the leaves that it tells.
func (k *keeper) steps(f *front.Front, l *ledger.Ledger) {
	k.t.Helper()
	leaves, why := f.Step(k.next)
	if why == api.OK && len(leaves) > 0 {
		k.leaves = leavesOf(l)
		if k.ld.Synced() != k.ld.Size() {
			k.fails("leaves %v are not synced", leaves)
		}
	}
}

// ends opens the front once more, and steps until nothing waits: each manifest that had a receipt is a leaf, each once.
func (k *keeper) ends() {
	k.t.Helper()
	f, l := k.opens()
	for most := f.Waits(); most > 0 && f.Waits() > 0; most-- {
		f.Step(greatest)
	}
	for n, text := range k.receipts {
		if _, there := l.Find([]byte(text)); !there {
			k.fails("the manifest of receipt %d is lost", n)
		}
	}
	all := leavesOf(l)
	if f.Waits() > 0 || len(all) != f.Receipts() || len(slices.Compact(slices.Sorted(slices.Values(all)))) != len(all) {
		k.fails("%d wait behind all Steps, and %d receipts are %d leaves", f.Waits(), f.Receipts(), len(all))
	}
}

// P17.3, W3, by their words alone: lives with power that goes at any call of either disk, and crashes with any keep.
func TestNothingIsForgotten(t *testing.T) {
	r := rand.New(rand.NewSource(17))
	for i := range 600 {
		k := newKeeper(t, fmt.Sprintf("run %d", i), setting{1 + r.Intn(mostRoom), 1 + r.Intn(mostSize), r.Intn(6)})
		for range 8 {
			k.lives(r.Intn(12), r.Intn(8), r.Intn(6), r.Intn(70)-1, r.Intn(130)-1)
		}
		k.ends()
	}
}

// P17.3, W3: the same life again and again, with each Arm of either disk and many keeps.
func TestNothingIsForgottenInLivesThatAreAlike(t *testing.T) {
	for n := range 9 {
		for m := range 7 {
			for keep := -1; keep < 120; keep += 3 + n%3 {
				k := newKeeper(t, fmt.Sprintf("Arm(%d), Arm(%d), Crash(%d)", n, m, keep), setting{3, 2, 1})
				for range 4 {
					k.lives(n, m, 3, keep, keep)
				}
				k.ends()
			}
		}
	}
}

// P17.3: who is told a receipt again, behind a Crash, is told the same one.
func TestTheSameReceiptBehindACrash(t *testing.T) {
	for keep := -1; keep < 3*itemSize; keep += 10 {
		f, d, l := begun(t, "P17.3: the same receipt", setting{4, 4, 10})
		accepts(t, "P17.3: the same receipt", f, 0, 0, items(1, 4)...)
		for range 3 {
			d.Crash(keep)
			f = opened(t, "P17.3: the same receipt", d, l, setting{4, 4, 10}, 4, items(1, 4)...)
			accepts(t, "P17.3: the same receipt", f, 0, 0, items(1, 4)...)
		}
		stands(t, "P17.3: the same receipt", f, 4, items(1, 4)...)
	}
}
