package front_test

import (
	"math/rand"
	"testing"

	"broadsheet/api"
)

// P17.1, R4: two fronts on two ledgers see nothing of each other, whatever is done to the one.
func TestFrontsOnTwoLedgers(t *testing.T) {
	eachRow(shortSteps(), 3, func(row []step) bool {
		one, other := benchOf(t, "R4: the one", usual, 130, 130), benchOf(t, "R4: the other", setting{2, 3, 10}, 200, 300)
		if !other.plays(submit(item(1), 0), log(item(2)), submit(item(3), 0)) {
			return false
		}
		for _, s := range row {
			if !one.plays(s) || !other.holds() {
				return false
			}
		}
		return other.plays(submit(item(2), 0), submit(item(4), 0), tick(9), tick(10)) && one.holds() && one.drains() && other.drains()
	})
}

// P17.1, R4: by turns: each of three fronts on ledgers of their own goes on as its own account says.
func TestFrontsByTurns(t *testing.T) {
	benches := []*bench{benchOf(t, "R4: first", usual, 400, 900), benchOf(t, "R4: second", setting{1, 1, 0}, api.MaxDisk, 100), benchOf(t, "R4: third", setting{mostRoom, mostSize, 50}, 2000, api.MaxDisk)}
	r := rand.New(rand.NewSource(3))
	for now := range 3000 {
		if !benches[r.Intn(len(benches))].plays(anyStep(r, now/5)) {
			return
		}
	}
}

// besideSteps tells the steps of fronts that have one ledger: none that opens it anew or crashes its disk.
func besideSteps() []step {
	return []step{
		submit(item(1), 5), submit(item(2), 0), submit(item(3), 7), tick(0), tick(15), log(item(2), "x"), {kind: doOpen}, {kind: doArm, n: 2}, {kind: doArmLog, n: 1},
		{kind: doCrashFront, n: 55}, {kind: doGrow, n: 0}, {kind: doGrowLog, n: 60},
	}
}

// P17.1, R4: two fronts on one ledger see of each other what the ledger has, and nothing else.
func TestFrontsOnOneLedger(t *testing.T) {
	eachRow(besideSteps(), 3, func(row []step) bool {
		one := benchOf(t, "R4: the one", usual, 130, 300)
		other := one.beside("R4: the other", setting{2, 3, 10}, 200)
		if !other.plays(submit(item(2), 0), submit(item(3), 9)) {
			return false
		}
		for _, s := range row {
			if !one.plays(s) || !other.holds() {
				return false
			}
		}
		return other.plays(submit(item(1), 0), submit(item(2), 0), tick(15), submit(item(3), 0)) && one.holds()
	})
}

// P17.1, R4: three fronts on one ledger, by turns.
func TestFrontsOnOneLedgerByTurns(t *testing.T) {
	r := rand.New(rand.NewSource(8))
	for range 30 {
		first := benchOf(t, "R4: first", anySetting(r), 2000, api.MaxDisk)
		benches := []*bench{first, first.beside("R4: second", anySetting(r), api.MaxDisk), first.beside("R4: third", anySetting(r), 500)}
		for now := range 300 {
			s := anyStep(r, now/5)
			if s.kind == doReopen || s.kind == doCrash || s.kind == doCrashLog || s.kind == doArmLog {
				continue
			}
			if !benches[r.Intn(len(benches))].plays(s) || !benches[r.Intn(len(benches))].holds() {
				return
			}
		}
	}
}

// P17.1: what one front was told is a Duplicate for the other only when the ledger has it; until then each gives its own receipt.
func TestOneManifestAtTwoFronts(t *testing.T) {
	f, _, l := begun(t, "P17.1: the one", setting{3, 3, 10})
	other := opened(t, "P17.1: the other", roomy(t), l, setting{3, 3, 10}, 0)
	accepts(t, "P17.1: the other", other, 0, 0, item(5), item(1))
	accepts(t, "P17.1: the one", f, 0, 0, item(1), item(2))
	stands(t, "P17.1: the other", other, 2, item(5), item(1))
	steps(t, "P17.2: the other", other, 10, 0, 1)
	submits(t, "P17.1: the one", f, item(1), 0, api.Duplicate, 1)
	submits(t, "P17.1: the one", f, item(5), 0, api.Duplicate, 0)
	submits(t, "P17.1: the other", other, item(2), 0, api.Accepted, 2)
	stands(t, "P17.1: the one", f, 2, item(1), item(2))
	steps(t, "P17.2: the one", f, 10, 1, 2)
	submits(t, "P17.1: the other", other, item(2), 0, api.Duplicate, 2)
	stands(t, "P17.1: the other", other, 1, item(5), item(1), item(2))
	steps(t, "P17.2: the other", other, 10, 2)
	hasLeaves(t, "P17.2: one ledger", l, item(5), item(1), item(2))
}

// R4: the same steps are answered the same.
func TestTheSameAgain(t *testing.T) {
	for seed := range int64(20) {
		one, other := benchOf(t, "R4", usual, 1000, 1000), benchOf(t, "R4", usual, 1000, 1000)
		r, q := rand.New(rand.NewSource(seed)), rand.New(rand.NewSource(seed))
		for now := range 100 {
			if !one.plays(anyStep(r, now)) || !other.plays(anyStep(q, now)) {
				return
			}
			if told(one.d) != told(other.d) || told(one.ld) != told(other.ld) {
				t.Fatalf("R4: %s, then %s", told(one.d), told(other.d))
			}
		}
	}
}
