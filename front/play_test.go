package front_test

import (
	"fmt"
	"math/rand"
	"slices"
	"testing"

	"broadsheet/api"
)

// shortSteps tells the steps of which short rows are made.
func shortSteps() []step {
	return []step{
		submit(item(1), 5), submit(item(2), 0), submit(item(3), least), submit("rubbish", 5), tick(0), tick(15), log(item(1)), {kind: doOpen}, {kind: doReopen},
		{kind: doArm, n: 1}, {kind: doArm, n: 2}, {kind: doArmLog, n: 1}, {kind: doArmLog, n: 2}, {kind: doCrash, n: 54}, {kind: doCrashFront, n: 55}, {kind: doCrashLog, n: 999}, {kind: doGrow, n: 55}, {kind: doGrowLog, n: 60},
	}
}

// P17.1 to P17.3: each row of four of these steps, held against the account, and then Steps until nothing waits.
func TestEachShortRow(t *testing.T) {
	for _, s := range []setting{{2, 2, 10}} {
		eachRow(shortSteps(), 4, func(row []step) bool {
			b := benchOf(t, "P17.1 to P17.3", s, 130, 130)
			return b.plays(row...) && b.drains()
		})
	}
}

// P17.1 to P17.3: rows of three on fronts of other settings.
func TestEachShortRowOfOtherSettings(t *testing.T) {
	for _, s := range []setting{{1, 1, 0}, {1, 2, 0}, {2, 1, 5}, {3, 2, 15}, {mostRoom, mostSize, mostWait}} {
		eachRow(shortSteps(), 3, func(row []step) bool {
			b := benchOf(t, "P17.1 to P17.3", s, 130, 130)
			return b.plays(submit(item(2), 5)) && b.plays(row...) && b.drains()
		})
	}
}

// anyStep tells a step of any kind, many Submits among them.
func anyStep(r *rand.Rand, now int) step {
	keeps := []int{least, -1, 0, 1, 8, itemSize - 1, itemSize, r.Intn(200), greatest}
	switch r.Intn(22) {
	case 0:
		return step{kind: doArm, n: r.Intn(9) - 1}
	case 1:
		return step{kind: doArmLog, n: r.Intn(7) - 1}
	case 2:
		return step{kind: doCrash + r.Intn(3), n: keeps[r.Intn(len(keeps))]}
	case 3:
		return step{kind: doGrow, n: r.Intn(600)}
	case 4:
		return step{kind: doGrowLog, n: r.Intn(900)}
	case 5, 6:
		return step{kind: doOpen}
	case 7:
		return step{kind: doReopen}
	case 8:
		return log(item(r.Intn(90)), []string{"x", "", "rubbish", item(r.Intn(90))}[r.Intn(4)])
	case 9:
		bad := noManifests()
		return submit(bad[r.Intn(len(bad))], now)
	case 10, 11, 12, 13, 14:
		return tick(now + []int{0, 0, -5, 12, r.Intn(40)}[r.Intn(5)])
	}
	return submit(item(r.Intn(90)), now+[]int{0, 0, 0, -9, 30}[r.Intn(5)])
}

// anySetting tells a setting, of which room is small as often as not.
func anySetting(r *rand.Rand) setting {
	waits := []int{0, 1, 3, 10, 50, mostWait}
	return setting{1 + r.Intn([]int{4, mostRoom}[r.Intn(2)]), 1 + r.Intn(mostSize), waits[r.Intn(len(waits))]}
}

// P17.1 to P17.3: long runs of steps of all kinds, with crashes and Opens among them, held against the account.
func TestLongRuns(t *testing.T) {
	r := rand.New(rand.NewSource(171))
	for i := range 400 {
		limit := []int{200, 2000, api.MaxDisk}[r.Intn(3)]
		b := benchOf(t, fmt.Sprintf("P17: run %d", i), anySetting(r), limit, limit)
		now := []int{0, 0, -1 << 40, 1 << 40, -500}[r.Intn(5)]
		for range 120 {
			if !b.plays(anyStep(r, now)) {
				return
			}
			now += r.Intn(4)
		}
		if !b.drains() {
			return
		}
	}
}

// W4: whatever is submitted goes through, though power goes now and then: by the end each manifest that has a receipt is a leaf, and no other one.
func TestItGoesOn(t *testing.T) {
	r := rand.New(rand.NewSource(4))
	for i := range 40 {
		b := benchOf(t, fmt.Sprintf("W4: run %d", i), anySetting(r), api.MaxDisk, api.MaxDisk)
		for n := range 200 {
			well := b.plays(submit(item(n+1), n), tick(n), submit(item(r.Intn(n+1)+1), n))
			if n%10 == 0 {
				well = well && b.plays(step{kind: doArm + r.Intn(2), n: 1 + r.Intn(12)})
			}
			if n%10 == 9 {
				well = well && b.plays(step{kind: doCrash, n: r.Intn(200)}, step{kind: doOpen})
			}
			if !well {
				return
			}
		}
		if !b.drains() {
			return
		}
		leaves, receipts := slices.Sorted(slices.Values(leavesOf(b.l))), slices.Sorted(slices.Values(b.a.receipts))
		if !slices.Equal(leaves, receipts) || len(leaves) < 20 {
			t.Errorf("W4: run %d: the ledger has %s, want %s", i, numbers(leaves), numbers(receipts))
		}
	}
}

// R3: calls that are refused, and those that do nothing, change nothing that any call tells later: one front with them, one without.
func TestRefusedCallsChangeNothing(t *testing.T) {
	s := setting{2, 3, 10}
	from := []step{submit(item(1), 5), submit(item(2), 0), submit(item(3), 7), tick(9), tick(15), {kind: doOpen}, {kind: doGrow, n: 55}, {kind: doGrowLog, n: 110}}
	odd := func(b *bench) {
		for _, text := range append([]string{"", "rubbish", item(0), item(1) + "x"}, b.a.receipts...) {
			b.f.Submit([]byte(text), 0)
			b.f.Receipt(len(text))
		}
		if len(b.a.waits) >= s.room || b.a.d.limit-len(b.a.d.text) < itemSize {
			b.f.Submit([]byte(item(9)), 0)
		}
		if !b.a.due(-2) {
			b.f.Step(-2)
		}
		refused(t, "R3", b.d, nil, s, api.ErrArg)
		refused(t, "R3", b.d, b.l, setting{0, 1, 0}, api.ErrArg)
	}
	eachRow(from, 4, func(row []step) bool {
		one, other := benchOf(t, "R3", s, 115, 70), benchOf(t, "R3", s, 115, 70)
		if !one.plays(submit(item(1), 3)) || !other.plays(submit(item(1), 3)) {
			return false
		}
		for _, s := range row {
			odd(one)
			if !one.plays(s) || !other.plays(s) || told(one.d) != told(other.d) || told(one.ld) != told(other.ld) {
				t.Errorf("R3: refused calls ahead of each of %v", row)
				return false
			}
		}
		return one.drains() && other.drains()
	})
}
