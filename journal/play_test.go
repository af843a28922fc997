package journal_test

import (
	"fmt"
	"math"
	"math/rand"
	"slices"
	"strings"
	"testing"

	"broadsheet/api"
	"broadsheet/journal"
)

// P13.3: the run of the chapter.
func TestRun(t *testing.T) {
	d := made(t, 99)
	j := opened(t, "P13.3", d)
	answers(t, "P13.2: Add(a)", j.Add([]byte("a")), api.OK)
	answers(t, "P13.2: Put(b)", j.Put([]byte("b")), api.OK)
	d.Crash(3)
	opened(t, "P13.3: the run", d, "a")
	tells(t, "P13.1: the run", d, lies("a"), 9, false)
}

// P13.2, P13.3: each row of four of these steps, on a disk that is soon full, held against the account.
func TestEachShortRow(t *testing.T) {
	steps := []step{
		{kind: doAdd, rec: "abc"}, {kind: doAdd}, {kind: doPut, rec: "xy"}, {kind: doPut}, {kind: doPut, rec: "too much for this disk"}, {kind: doSync},
		{kind: doArm, n: 1}, {kind: doArm, n: 2}, {kind: doArm}, {kind: doOpen}, {kind: doCrash, n: -1}, {kind: doCrash, n: 9}, {kind: doCrash, n: 99},
	}
	eachRow(steps, 4, func(row []step) bool {
		return begun(t, "P13.2, P13.3", 30).plays(row...)
	})
}

// P13.3: each row of three writes, with power that goes at each of the disk's calls, and a Crash with each keep.
func TestPowerGoesAtEachCall(t *testing.T) {
	steps := []step{
		{kind: doAdd, rec: "abc"}, {kind: doAdd}, {kind: doPut, rec: "xy"}, {kind: doPut}, {kind: doSync}, {kind: doAdd, rec: "too much for this disk, by far"},
	}
	behind := []step{{kind: doAdd, rec: "next"}, {kind: doPut, rec: "last"}, {kind: doSync}, {kind: doOpen}}
	eachRow(steps, 3, func(row []step) bool {
		for n := range 8 {
			for keep := -1; keep < 47; keep++ {
				b := begun(t, "P13.3", 45)
				run := append([]step{{kind: doPut, rec: "0"}, {kind: doArm, n: n}}, row...)
				if !b.plays(append(run, step{kind: doCrash, n: keep})...) || !b.plays(behind...) {
					return false
				}
			}
		}
		return true
	})
}

// anyStep tells a step of any kind.
func anyStep(r *rand.Rand) step {
	switch kind := r.Intn(3 * kinds); kind {
	case doSync, doOpen:
		return step{kind: kind}
	case doArm:
		return step{kind: doArm, n: r.Intn(9) - 1}
	case doCrash:
		keeps := []int{math.MinInt, -1, 0, 1, 7, 8, 9, r.Intn(60), r.Intn(60), math.MaxInt}
		return step{kind: doCrash, n: keeps[r.Intn(len(keeps))]}
	default:
		rec := make([]byte, r.Intn(20)*r.Intn(2))
		for i := range rec {
			rec[i] = byte(r.Intn(256))
		}
		return step{kind: kind % 2, rec: string(rec)}
	}
}

// P13.2, P13.3: long runs of steps of all kinds, held against the account.
func TestLongRuns(t *testing.T) {
	r := rand.New(rand.NewSource(13))
	for i := range 300 {
		b := begun(t, fmt.Sprintf("P13.2, P13.3: run %d", i), 100+r.Intn(900))
		for range 150 {
			if !b.plays(anyStep(r)) {
				return
			}
		}
	}
}

// longRun tells a run of Adds, Puts and Syncs.
func longRun(r *rand.Rand, n int) []step {
	var run []step
	for len(run) < n {
		if s := anyStep(r); s.kind == doAdd || s.kind == doPut || s.kind == doSync {
			run = append(run, s)
		}
	}
	return run
}

// P13.3: long runs, with power that goes at each of the disk's calls, and a Crash with each keep, from -1 to beyond all; behind some of them the journal goes on with the same run.
func TestPowerGoesAtEachCallOfALongRun(t *testing.T) {
	for seed := range int64(4) {
		run := longRun(rand.New(rand.NewSource(seed)), 25)
		for n := range 2*len(run) + 2 {
			for keep, all := -1, 0; keep < all+3; keep++ {
				b := begun(t, fmt.Sprintf("P13.3: run %d, Arm(%d), Crash(%d)", seed, n, keep), 9999)
				if !b.plays(step{kind: doArm, n: n}) || !b.plays(run...) {
					return
				}
				all = size(b.a.loose)
				if !b.plays(step{kind: doCrash, n: keep}) {
					return
				}
				if keep%10 == 0 && (!b.plays(run...) || !b.plays(step{kind: doCrash})) {
					return
				}
			}
		}
	}
}

// P13.3, by its words alone: behind a crash all records that were Added are there, and of what was Put since the first ones, whole, none turned.
func TestWhatWasAddedIsThere(t *testing.T) {
	r := rand.New(rand.NewSource(33))
	for i := range 2000 {
		d := made(t, 400+r.Intn(3000))
		j := opened(t, "P13.3", d)
		var put, sure []string
		for life := range 4 {
			d.Arm(r.Intn(30))
			for range r.Intn(15) {
				put, sure = playsByWords(j, d.Size, anyStep(r), put, sure)
			}
			d.Crash(r.Intn(40) - 1)
			k, got, why := journal.Open(d)
			var recs []string
			for _, rec := range got {
				recs = append(recs, string(rec))
			}
			if why != api.OK || len(recs) < len(sure) || len(recs) > len(put) || !slices.Equal(put[:len(recs)], recs) {
				t.Fatalf("P13.3: run %d, life %d: %v, %q, want at least %q, the first ones of %q", i, life, why, recs, sure, put)
			}
			j, put, sure = k, slices.Clone(recs), slices.Clone(recs)
		}
	}
}

// playsByWords does the step, and tells which records may be there behind it, and which must be. Whether a Put whose answer is a refusal was at the call at which power went, the disk's size tells.
func playsByWords(j *journal.Journal, size func() int, s step, put, sure []string) ([]string, []string) {
	was := size()
	why := api.ErrNone
	switch s.kind {
	case doAdd:
		why = j.Add([]byte(s.rec))
	case doPut:
		j.Put([]byte(s.rec))
	case doSync:
		why = j.Sync()
	}
	if size() > was {
		put = append(put, s.rec)
	}
	if why == api.OK {
		sure = slices.Clone(put)
	}
	return put, sure
}

// P13.3, W3: crash behind crash, each while the journal opens and cuts: no record that was read is lost.
func TestPowerGoesWhileOpening(t *testing.T) {
	for _, recs := range rows() {
		all := lies(recs...)
		for at := range len(all) + 1 {
			d := holding(t, all[:at], at)
			whole, n, _ := reads(all[:at])
			for range 3 {
				d.Arm(1)
				_, got, why := journal.Open(d)
				if n == at {
					same(t, "P13.1: nothing is torn", got, whole)
				} else if why != api.ErrFull || d.Size() != at {
					t.Fatalf("P13.1: %q cut off at %d, Arm(1): %v, %d bytes", recs, at, why, d.Size())
				}
				d.Crash(at)
			}
			opened(t, "P13.3: crash behind crash", d, whole...)
		}
	}
}

// P13.3: a record at whose Append power went is there or not, as the crash keeps it; Count of the journal that is opened then tells it.
func TestARecordAtWhichPowerWent(t *testing.T) {
	for _, rec := range []string{"", "b", "0123456789"} {
		for keep := range 30 {
			d := made(t, 99)
			j := opened(t, "P13.3", d)
			answers(t, "P13.2: Add", j.Add([]byte("a")), api.OK)
			d.Arm(1)
			answers(t, "P13.2: Put where power goes", j.Put([]byte(rec)), api.ErrFull)
			counts(t, "P13.2: Put where power goes", j, 1)
			d.Crash(keep)
			want := []string{"a"}
			if keep >= 8+len(rec) {
				want = append(want, rec)
			}
			k := opened(t, fmt.Sprintf("P13.3: Crash(%d)", keep), d, want...)
			answers(t, "P13.2: gone on", k.Add([]byte("c")), api.OK)
			opened(t, "P13.3: gone on", d, append(want, "c")...)
		}
	}
}

// P13.3: long records, too, with keeps near their edges.
func TestACrashOfLongRecords(t *testing.T) {
	long := strings.Repeat("0123456789abcde", api.MaxRecord/15)
	for _, keep := range []int{0, 7, 8, 9, 255, 65534, 65535, 65542, 65543, 65544, 65550, 65551, 131085, 131086, 1 << 20} {
		b := begun(t, fmt.Sprintf("P13.3: Crash(%d)", keep), api.MaxDisk)
		b.plays(step{kind: doAdd, rec: "a"}, step{kind: doPut, rec: long}, step{kind: doPut, rec: long}, step{kind: doCrash, n: keep}, step{kind: doAdd, rec: long}, step{kind: doOpen})
	}
}

// R4: the same steps are answered the same.
func TestTheSameAgain(t *testing.T) {
	for seed := range int64(20) {
		one, other := begun(t, "R4", 300), begun(t, "R4", 300)
		r, q := rand.New(rand.NewSource(seed)), rand.New(rand.NewSource(seed))
		for range 60 {
			if !one.plays(anyStep(r)) || !other.plays(anyStep(q)) {
				return
			}
			if told(one.d) != told(other.d) || joined(one.a.all()) != joined(other.a.all()) {
				t.Fatalf("R4: %s, then %s", told(one.d), told(other.d))
			}
		}
	}
}

// R3: refused calls change nothing that any call tells later.
func TestRefusedCallsChangeNothing(t *testing.T) {
	steps := []step{{kind: doAdd, rec: "ab"}, {kind: doPut, rec: "c"}, {kind: doSync}, {kind: doOpen}, {kind: doCrash, n: 9}}
	wrong := []step{{kind: doPut, rec: string(noise(65536))}, {kind: doAdd, rec: string(noise(65536))}, {kind: doPut, rec: string(noise(60))}, {kind: doAdd, rec: string(noise(60))}}
	eachRow(steps, 4, func(row []step) bool {
		for _, w := range wrong {
			one, other := begun(t, "R3", 60), begun(t, "R3", 60)
			for _, s := range row {
				if !one.plays(w, s) || !other.plays(s) {
					return false
				}
				if told(one.d) != told(other.d) || one.j.Count() != other.j.Count() {
					t.Errorf("R3: %v ahead of each of %v: %s %d, want %s %d", w, row, told(one.d), one.j.Count(), told(other.d), other.j.Count())
					return false
				}
			}
		}
		return true
	})
}
