package disk_test

import (
	"fmt"
	"math"
	"math/rand"
	"strings"
	"testing"

	"broadsheet/api"
	"broadsheet/disk"
)

// P12.1, P12.2: each row of four of these calls, on a disk that is soon full, held against the account.
func TestEachShortRow(t *testing.T) {
	steps := []step{
		{kind: doAppend, b: "abc"}, {kind: doAppend, b: "x"}, {kind: doAppend}, {kind: doSync},
		{kind: doCut, n: 2}, {kind: doCut, n: -1}, {kind: doGrow, n: 4}, {kind: doGrow, n: 2},
		{kind: doArm, n: 1}, {kind: doArm, n: 2}, {kind: doArm}, {kind: doCrash, n: 1}, {kind: doCrash, n: -1},
	}
	eachRow(steps, 4, func(row []step) bool {
		return plays(t, "P12.1, P12.2", made(t, 5), begun(5), row...)
	})
}

// P12.2: each row of four writes, with power that goes at each of them and at none, then a Crash with each keep.
func TestPowerGoesAtEachWrite(t *testing.T) {
	steps := []step{
		{kind: doAppend, b: "abc"}, {kind: doAppend, b: "too much"}, {kind: doAppend}, {kind: doSync},
		{kind: doCut, n: 2}, {kind: doCut}, {kind: doCut, n: 7},
	}
	eachRow(steps, 4, func(row []step) bool {
		for n := range 6 {
			for keep := range 4 {
				d, a := made(t, 6), begun(6)
				run := append([]step{{kind: doArm, n: n}}, row...)
				run = append(run, step{kind: doCrash, n: keep}, step{kind: doAppend, b: "z"}, step{kind: doSync})
				if !plays(t, "P12.2", d, a, run...) {
					return false
				}
			}
		}
		return true
	})
}

// anyStep tells a step of any kind for a disk of so many bytes.
func anyStep(r *rand.Rand, size int) step {
	near := []int{math.MinInt, -1, 0, 1, size - 1, size, size + 1, r.Intn(60), math.MaxInt}
	n := near[r.Intn(len(near))]
	switch kind := r.Intn(2 * kinds); kind {
	case doGrow:
		return step{kind: doGrow, n: append(near, size+20, size+20, size+20)[r.Intn(len(near)+3)]}
	case doCut:
		return step{kind: doCut, n: n}
	case doSync:
		return step{kind: doSync}
	case doArm:
		return step{kind: doArm, n: r.Intn(8) - 1}
	case doCrash:
		return step{kind: doCrash, n: n}
	default:
		b := make([]byte, r.Intn(12))
		for i := range b {
			b[i] = byte(r.Intn(256))
		}
		return step{kind: doAppend, b: string(b)}
	}
}

// P12.1, P12.2, P12.3: long runs of calls of all kinds, held against the account; what was synced stands at the front, until a Cut.
func TestLongRuns(t *testing.T) {
	r := rand.New(rand.NewSource(12))
	for range 400 {
		d, a := made(t, 50), begun(50)
		sure := ""
		for i := range 200 {
			s := anyStep(r, d.Size())
			was := d.Down()
			if !plays(t, fmt.Sprintf("P12.1, P12.2: call %d", i), d, a, s) {
				return
			}
			all := string(d.Bytes())
			if s.kind == doCut && !was && !d.Down() && s.n >= 0 && s.n < len(sure) {
				sure = sure[:s.n]
			}
			if !strings.HasPrefix(all, sure) || d.Synced() < len(sure) {
				t.Fatalf("P12.3: call %d, %v: %q, want %q at its front", i, s, all, sure)
			}
			if d.Synced() > len(sure) {
				sure = all[:d.Synced()]
			}
		}
	}
}

// P12.2: one run, with power that goes at each of its calls in turn, and that it goes on behind the Crash.
func TestPowerGoesAtEachCallOfARun(t *testing.T) {
	r := rand.New(rand.NewSource(2))
	var run []step
	for len(run) < 60 {
		if s := anyStep(r, len(run)); s.kind != doArm && s.kind != doCrash {
			run = append(run, s)
		}
	}
	for at := range len(run) + 2 {
		for _, keep := range []int{0, 1, 5, 99} {
			d, a := made(t, 200), begun(200)
			whole := append([]step{{kind: doArm, n: at}}, run...)
			whole = append(whole, step{kind: doCrash, n: keep})
			if !plays(t, "P12.2", d, a, append(whole, run...)...) {
				return
			}
		}
	}
}

// P12.2, R3: what is called without power is not told, neither then nor behind a Crash.
func TestNothingWithoutPowerIsToldLater(t *testing.T) {
	steps := []step{
		{kind: doAppend, b: "xyz"}, {kind: doAppend, b: "too much of it"}, {kind: doAppend}, {kind: doSync},
		{kind: doCut, n: 1}, {kind: doCut, n: 3}, {kind: doCut, n: -1}, {kind: doArm, n: 1}, {kind: doArm, n: 3}, {kind: doArm},
	}
	behind := []step{
		{kind: doCrash, n: 1}, {kind: doAppend, b: "12"}, {kind: doCut, n: 4}, {kind: doArm, n: 2}, {kind: doAppend, b: "3"}, {kind: doSync}, {kind: doCrash}, {kind: doAppend, b: "456789"},
	}
	eachRow(steps, 3, func(row []step) bool {
		one, other := dark(t), dark(t)
		for _, s := range row {
			does(one, s)
			if told(one) != told(other) {
				t.Errorf("P12.2: without power %v: %s, want %s", row, told(one), told(other))
				return false
			}
		}
		for _, s := range behind {
			got, want := does(one, s), does(other, s)
			if got != want || told(one) != told(other) {
				t.Errorf("R3: without power %v, then %v: %s %s, want %s %s", row, s, got, told(one), want, told(other))
				return false
			}
		}
		return true
	})
}

// dark tells a disk without power that has abcd, the first two synced.
func dark(t *testing.T) *disk.Disk {
	d := laid(t, 8, "ab", "cd")
	d.Arm(1)
	answers(t, "P12.2: Sync", d.Sync(), api.ErrFull)
	return d
}

// told tells all that a disk tells.
func told(d *disk.Disk) string {
	return fmt.Sprintf("%q %d %d %v", d.Bytes(), d.Size(), d.Synced(), d.Down())
}

// R3: refused calls with power change nothing that any call tells later.
func TestRefusedCallsChangeNothing(t *testing.T) {
	refused := []step{
		{kind: doAppend, b: "too much of it"}, {kind: doCut, n: -1}, {kind: doCut, n: 5}, {kind: doCut, n: math.MaxInt},
		{kind: doGrow, n: 3}, {kind: doGrow, n: -1}, {kind: doGrow, n: api.MaxDisk + 1},
	}
	steps := []step{{kind: doAppend, b: "xy"}, {kind: doAppend, b: "xyzwv"}, {kind: doSync}, {kind: doCut, n: 1}, {kind: doGrow, n: 8}, {kind: doCrash, n: 1}}
	for _, wrong := range refused {
		eachRow(steps, 3, func(row []step) bool {
			one, other := laid(t, 8, "ab", "cd"), laid(t, 8, "ab", "cd")
			does(one, wrong)
			for _, s := range row {
				got, want := does(one, s), does(other, s)
				if got != want || told(one) != told(other) {
					t.Errorf("R3: %v, refused, then %v: %s %s, want %s %s", wrong, row, got, told(one), want, told(other))
					return false
				}
			}
			return true
		})
	}
}
