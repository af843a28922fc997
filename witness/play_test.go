package witness_test

import (
	"fmt"
	"math/rand"
	"slices"
	"testing"

	"broadsheet/api"
)

// shortSteps tells the steps of which short rows are made.
func shortSteps() []step {
	return []step{
		show(plain, 0).with(none), show(plain, 2), show(plain, 3), show(plain, 5), show(fork, 3), show(fork, 6), show(plain, 3).by(otherSeed), show(plain, 5).with(past), {kind: doOpen},
		{kind: doArm, n: 1}, {kind: doArm, n: 2}, {kind: doArmKeys, n: 1}, {kind: doArmKeys, n: 2}, {kind: doCrash, n: 9}, {kind: doCrashChecks, n: recSize}, {kind: doCrashKeys, n: 8}, {kind: doGrow, n: recSize}, {kind: doGrowKeys, n: keySize - 1},
	}
}

// eachRowAtOnce calls f with each row of n of these steps, for each first step by itself, all at once.
func eachRowAtOnce(t *testing.T, from []step, n int, f func(t *testing.T, row []step) bool) {
	for _, first := range from {
		t.Run(first.String(), func(t *testing.T) {
			t.Parallel()
			eachRow(from, n-1, func(rest []step) bool { return f(t, slices.Insert(slices.Clone(rest), 0, first)) })
		})
	}
}

// P18.1 to P18.3: each row of three of these steps, held against the account, and then what the witness tells of the last one and the next.
func TestEachShortRow(t *testing.T) {
	eachRowAtOnce(t, shortSteps(), 3, func(t *testing.T, row []step) bool {
		b := benchOf(t, "P18.1 to P18.3", 2, 2*recSize+recSize/2, 3*keySize)
		return b.plays(row...) && b.ends()
	})
}

// P18.1 to P18.3: rows of two, behind one that was cosigned, at disks with much room or with none.
func TestEachShortRowOfOtherDisks(t *testing.T) {
	for _, limits := range [][2]int{{api.MaxDisk, api.MaxDisk}, {recSize, api.MaxDisk}, {api.MaxDisk, keySize}, {recSize, keySize}, {recSize - 1, keySize}, {recSize, keySize - 1}, {0, 0}} {
		eachRowAtOnce(t, shortSteps(), 2, func(t *testing.T, row []step) bool {
			b := benchOf(t, fmt.Sprintf("P18.1 to P18.3, limits %v", limits), 3, limits[0], limits[1])
			return b.plays(show(plain, 1)) && b.plays(row...) && b.ends()
		})
	}
}

// anyShow tells a show of any kind, of sizes about the last one.
func anyShow(r *rand.Rand, last point) step {
	face := faceOf(last)
	if r.Intn(6) == 0 {
		face = faces()[r.Intn(3)]
	}
	sizes := []int{last.size, last.size, last.size + 1, last.size + 1 + r.Intn(9), last.size - r.Intn(3), r.Intn(40)}
	s := show(face, min(max(sizes[r.Intn(len(sizes))], 0), 200))
	if r.Intn(5) == 0 {
		s = s.with(r.Intn(alienly + 1))
	}
	if r.Intn(12) == 0 {
		s = s.by(otherSeed)
	}
	return s
}

// anyStep tells a step of any kind, many shows among them.
func anyStep(r *rand.Rand, last point) step {
	keeps := []int{least, -1, 0, 1, 8, 9, recSize - 1, recSize, r.Intn(100), greatest}
	switch r.Intn(24) {
	case 0:
		return step{kind: doArm + r.Intn(2), n: r.Intn(9) - 1}
	case 1:
		return step{kind: doCrash + r.Intn(3), n: keeps[r.Intn(len(keeps))]}
	case 2:
		return step{kind: doGrow, n: r.Intn(300)}
	case 3:
		return step{kind: doGrowKeys, n: r.Intn(60)}
	case 4, 5:
		return step{kind: doOpen}
	}
	return anyShow(r, last)
}

// P18.1 to P18.3: long runs of steps of all kinds, with crashes and Opens among them, held against the account.
func TestLongRuns(t *testing.T) {
	for part := range 8 {
		t.Run(fmt.Sprint(part), func(t *testing.T) {
			t.Parallel()
			r := rand.New(rand.NewSource(int64(181 + part)))
			for i := range 40 {
				limit, keyLimit := []int{100, 500, api.MaxDisk}[r.Intn(3)], []int{20, 100, api.MaxDisk}[r.Intn(3)]
				b := benchOf(t, fmt.Sprintf("P18: run %d", i), r.Intn(allWitnesses), limit, keyLimit)
				for range 100 {
					if !b.plays(anyStep(r, b.a.last)) {
						return
					}
				}
				if !b.ends() {
					return
				}
			}
		})
	}
}
