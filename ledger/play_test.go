package ledger_test

import (
	"fmt"
	"math"
	"math/rand"
	"slices"
	"strings"
	"testing"

	"broadsheet/api"
	"broadsheet/disk"
	"broadsheet/ledger"
)

// shortSteps tells the steps of which short rows are made. No Publish is among them: signing is slow.
func shortSteps() []step {
	return []step{
		add("a", "b"), add("b", "", "b"), add("c"), add("a"), {kind: doOpen}, {kind: doArm, n: 1}, {kind: doArm, n: 2},
		{kind: doCrash, n: -1}, {kind: doCrash, n: 14}, {kind: doCrash, n: 18}, {kind: doGrow, n: 15}, {kind: doGrow, n: 40},
	}
}

// publishSteps tells the steps of which short rows with Publish are made.
func publishSteps() []step {
	return []step{
		add("a"), add("b", "a"), {kind: doPublish}, {kind: doOpen}, {kind: doArmKeys, n: 1}, {kind: doArmKeys, n: 2},
		{kind: doCrash, n: 8}, {kind: doCrashKeys, n: 9}, {kind: doCrashOne, n: 0}, {kind: doGrowKeys, n: 8}, {kind: doGrowKeys, n: 9},
	}
}

// P15.1, P15.3: each row of four of these steps, on a disk with room for some batches, held against the account.
func TestEachShortRow(t *testing.T) {
	by := newSigner(1)
	eachRow(shortSteps(), 4, func(row []step) bool {
		return benchOf(t, "P15.1, P15.3", by, 33, 0).plays(row...)
	})
}

// P15.2, P15.3: each row of four of these steps, of which some publish.
func TestEachShortRowWithPublish(t *testing.T) {
	by := newSigner(1)
	eachRow(publishSteps(), 4, func(row []step) bool {
		return benchOf(t, "P15.2, P15.3", by, 100, 18).plays(row...)
	})
}

// twoLives lets power go at these calls of a disk in two lives, with a Crash behind each, and then lives once more. It tells whether all was well.
func (b *bench) twoLives(life func(n int) []step, arm, one, other, keep, again int) bool {
	return b.plays(step{kind: arm, n: one}) && b.plays(life(0)...) && b.plays(step{kind: doCrash, n: keep}) &&
		b.plays(step{kind: arm, n: other}) && b.plays(life(1)...) && b.plays(step{kind: doCrash, n: again}) && b.plays(life(2)...)
}

// P15.3, W3: power that goes at each call of the disk of batches in a short life, its Open's included, a Crash with each keep, the same again in the next life, and once more a life: what is opened goes on as the account says.
func TestPowerGoesAtEachCall(t *testing.T) {
	by := newSigner(1)
	life := func(n int) []step {
		items := named(4*n, 4)
		return []step{{kind: doOpen}, add(items[:2]...), add("old", items[2]), add(items[0]), add("old", items[3], items[3]), {kind: doOpen}}
	}
	for one := range 8 {
		for other := range 9 {
			for keep := -1; keep < 29; keep++ {
				b := benchOf(t, fmt.Sprintf("P15.3: Arm(%d), Arm(%d)", one, other), by, 1000, 0)
				if !b.twoLives(life, doArm, one, other, keep, 28-keep) {
					return
				}
			}
		}
	}
}

// P15.2, P15.3, W3: the same with the disk of keys, in lives that publish.
func TestPowerGoesAtEachCallOfTheKeys(t *testing.T) {
	by := newSigner(1)
	life := func(n int) []step {
		return []step{{kind: doOpen}, add(named(2*n, 1)...), {kind: doPublish}, {kind: doPublish}, add(named(2*n+1, 1)...), {kind: doPublish}, {kind: doOpen}}
	}
	for one := range 6 {
		for other := range 6 {
			for keep := -1; keep < 11; keep++ {
				b := benchOf(t, fmt.Sprintf("P15.3: Arm(%d), Arm(%d)", one, other), by, 1000, 144)
				if !b.twoLives(life, doArmKeys, one, other, keep, 10-keep) {
					return
				}
			}
		}
	}
}

// P15.3: batches of many items and long ones, with power that goes at either call and a Crash with many keeps: whole or not at all.
func TestPowerGoesAtALongBatch(t *testing.T) {
	by := newSigner(1)
	rows := [][]string{named(0, 256), named(0, 3), {strings.Repeat("x", 65529)}, {strings.Repeat("x", 30000), "y", strings.Repeat("z", 30000)}}
	for _, row := range rows {
		size := len(written(row))
		for call := 1; call < 3; call++ {
			for _, keep := range []int{math.MinInt, -1, 0, 1, 7, 8, 9, 11, 12, 13, 14, size / 2, size - 2, size - 1, size, size + 1, math.MaxInt} {
				b := benchOf(t, "P15.3: a long batch", by, api.MaxDisk, 144)
				if !b.plays(step{kind: doArm, n: call}, add(row...), step{kind: doCrashOne, n: keep}, step{kind: doOpen}, add("q"), add(row[:1]...), step{kind: doOpen}) {
					return
				}
			}
		}
	}
}

// anyItems tells some items, of which many are there in long runs.
func anyItems(r *rand.Rand) []string {
	items := make([]string, r.Intn(6))
	for i := range items {
		items[i] = fmt.Sprint(r.Intn(60))
	}
	switch r.Intn(40) {
	case 0:
		return append(items, strings.Repeat("long", 16000+r.Intn(500)))
	case 1:
		return append(items, named(0, 200+r.Intn(60))...)
	case 2:
		return append(items, "", "")
	}
	return items
}

// anyStep tells a step of any kind, many Adds among them.
func anyStep(r *rand.Rand) step {
	keeps := []int{math.MinInt, -1, 0, 1, 7, 8, 9, 15, r.Intn(40), math.MaxInt}
	switch r.Intn(16) {
	case 0:
		return step{kind: doArm, n: r.Intn(7) - 1}
	case 1:
		return step{kind: doArmKeys, n: r.Intn(5) - 1}
	case 2:
		return step{kind: doCrash + r.Intn(3), n: keeps[r.Intn(len(keeps))]}
	case 3:
		return step{kind: doGrow, n: r.Intn(100)}
	case 4:
		return step{kind: doGrowKeys, n: r.Intn(30)}
	case 5, 6, 7:
		return step{kind: doOpen}
	case 8, 9:
		return step{kind: doPublish}
	}
	return add(anyItems(r)...)
}

// P15.1 to P15.3: long runs of steps of all kinds, held against the account.
func TestLongRuns(t *testing.T) {
	by := newSigner(1)
	r := rand.New(rand.NewSource(15))
	for i := range 300 {
		limit := []int{100, 1000, api.MaxDisk}[r.Intn(3)]
		b := benchOf(t, fmt.Sprintf("P15: run %d", i), by, limit, 9*r.Intn(20))
		for range 60 {
			if !b.plays(anyStep(r)) {
				return
			}
		}
	}
}

// log is who keeps a ledger through crashes, and notes what was told: P15.3 and W3 by their words alone.
type log struct {
	t     *testing.T
	name  string
	d, k  *disk.Disk
	sure  [][]string // batches whose Add was OK
	maybe []string   // the one under way; nil: none
	keys  map[int]string
	by    *signer
}

func newLog(t *testing.T, name string, by *signer) *log {
	return &log{t: t, name: name, d: roomy(t), k: roomy(t), keys: map[int]string{}, by: by}
}

// opens tells the ledger, if it is opened: all batches whose Add was OK are there, the one under way whole or not at all, none else.
func (g *log) opens() *ledger.Ledger {
	g.t.Helper()
	l, why := ledger.Open(g.d, g.k, g.by.seed)
	if why != api.OK {
		if why != api.ErrFull || !g.d.Down() && !g.k.Down() || l != nil {
			g.t.Fatalf("P15.3: %s: Open: %v", g.name, why)
		}
		return nil
	}
	sure := slices.Concat(g.sure...)
	if g.maybe != nil && amiss(l, slices.Concat(sure, g.maybe)) == "" {
		g.sure = append(g.sure, g.maybe)
	} else if fault := amiss(l, sure); fault != "" {
		g.t.Fatalf("P15.3: %s: behind a crash: %s", g.name, fault)
	}
	g.maybe = nil
	return l
}

// lives opens the ledger, adds batches and publishes, and crashes. Power goes at the n-th call of the one disk, and at the m-th of the other.
func (g *log) lives(n, m, rows, keep int) {
	g.t.Helper()
	g.d.Arm(n)
	g.k.Arm(m)
	if l := g.opens(); l != nil {
		for range rows {
			g.adds(l)
			g.publishes(l)
		}
	}
	g.d.Crash(keep)
	g.k.Crash(keep)
}

// adds adds a batch of one to three new items, and one that is there.
func (g *log) adds(l *ledger.Ledger) {
	g.t.Helper()
	from := len(slices.Concat(g.sure...))
	row := named(from, 1+from%3)
	numbers, why := l.Add(texts(append(named(0, min(from, 1)), row...))...)
	if why == api.OK {
		if !slices.Equal(numbers[min(from, 1):], upTo(from, len(row))) || g.d.Synced() != g.d.Size() {
			g.t.Fatalf("P15.1: %s: Add: %v, %d of %d bytes are synced", g.name, numbers, g.d.Synced(), g.d.Size())
		}
		g.sure = append(g.sure, row)
	} else if g.maybe == nil {
		g.maybe = row
	}
}

// publishes publishes: no key that signed a checkpoint that was told signs another one, and its record is synced.
func (g *log) publishes(l *ledger.Ledger) {
	g.t.Helper()
	s, why := l.Publish()
	if why != api.OK {
		return
	}
	text := fmt.Sprintf("%d %x", s.Check.Size, s.Check.Root)
	if was, there := g.keys[s.Sig.Index]; there && was != text {
		g.t.Fatalf("W3: %s: key %d signed %s, and now %s", g.name, s.Sig.Index, was, text)
	}
	g.keys[s.Sig.Index] = text
	if !g.by.isFor(s, s.Sig.Index, slices.Concat(g.sure...)) || g.k.Synced() < keySize*(s.Sig.Index+1) {
		g.t.Fatalf("P15.2: %s: key %d, size %d", g.name, s.Sig.Index, s.Check.Size)
	}
}

// P15.3, W3, by their words alone: lives with power that goes at any call of either disk, and crashes with any keep.
func TestNothingIsForgotten(t *testing.T) {
	by := newSigner(1)
	r := rand.New(rand.NewSource(3))
	for i := range 150 {
		g := newLog(t, fmt.Sprintf("run %d", i), by)
		for range 12 {
			g.lives(r.Intn(9), r.Intn(6), r.Intn(4), r.Intn(50)-1)
		}
	}
}

// P15.3, W3: the same life again and again, with each Arm and each keep.
func TestNothingIsForgottenInLivesThatAreAlike(t *testing.T) {
	by := newSigner(1)
	for n := range 7 {
		for m := range 5 {
			for keep := -1; keep < 46; keep += 4 + n%3 {
				g := newLog(t, fmt.Sprintf("Arm(%d), Arm(%d), Crash(%d)", n, m, keep), by)
				for range 4 {
					g.lives(n, m, 2, keep)
				}
			}
		}
	}
}

// P15.3: the batch under way at each keep: there just where all its bytes stayed.
func TestTheBatchUnderWay(t *testing.T) {
	front, row := []string{"a", "b"}, []string{"c", "", "dd"}
	size := len(written(row))
	for call := 1; call < 3; call++ {
		for keep := -1; keep < size+5; keep++ {
			d := kept(t, written(front))
			l := opened(t, "P15.3", d, roomy(t), front, 0)
			d.Arm(call)
			addsNone(t, "P15.3: power goes", l, row, api.ErrFull)
			stands(t, "P15.3: power went", l, front)
			d.Crash(keep)
			want := front
			if keep >= size {
				want = slices.Concat(front, row)
			}
			name := fmt.Sprintf("P15.3: call %d, Crash(%d)", call, keep)
			l = opened(t, name, d, roomy(t), want, 0)
			adds(t, name, l, []string{"e", "c"}, mustOnly(mustAdd(want, []string{"e", "c"}))...)
		}
	}
}

// mustOnly tells the numbers alone.
func mustOnly(numbers []int, _ []string) []int { return numbers }
