package batch_test

import (
	"math/rand"
	"testing"

	"broadsheet/api"
	"broadsheet/batch"
)

// shortSteps tells the steps of which short rows are made.
func shortSteps() []step {
	return []step{
		putOf("a", 5), putOf("b", 6), putOf("a", -7), putOf("", least), putOf("c", least+1), putOf("ab", greatest),
		takeOf(), backOf(), backOf("m"), backOf("a", "n"), backOf("b", "b", ""),
	}
}

// P16.1: each row of four of these steps, on small queues of all kinds, held against the account.
func TestEachShortRow(t *testing.T) {
	for _, room := range []int{1, 2, 3} {
		for _, size := range []int{1, 2, 4} {
			for _, wait := range []int{0, 10, 1000} {
				well := eachRow(shortSteps(), 4, func(row []step) bool {
					return plays(t, "P16.1", made(t, room, size, wait), &account{room: room, size: size, wait: wait}, row...)
				})
				if !well {
					return
				}
			}
		}
	}
}

// anyStep tells a step of any kind.
func anyStep(r *rand.Rand) step {
	all := words()
	switch r.Intn(7) {
	case 0, 1:
		return takeOf()
	case 2:
		items := make([]string, r.Intn(6))
		if r.Intn(9) == 0 {
			items = make([]string, r.Intn(api.MaxQueue+5))
		}
		for i := range items {
			items[i] = all[r.Intn(len(all))]
		}
		return backOf(items...)
	}
	times := append(anyTime(), r.Intn(3000)-1500, r.Intn(40), int(r.Uint64()))
	return putOf(all[r.Intn(len(all))], times[r.Intn(len(times))])
}

// P16.1: long runs of calls of all kinds, on queues of all kinds, held against the account.
func TestLongRuns(t *testing.T) {
	r := rand.New(rand.NewSource(16))
	waits := []int{0, 1, 2, 10, 999, 1000}
	for range 600 {
		a := &account{room: 1 + r.Intn(api.MaxQueue), size: 1 + r.Intn(api.MaxBatch), wait: waits[r.Intn(len(waits))]}
		q := made(t, a.room, a.size, a.wait)
		for range 150 {
			if !plays(t, "P16.1", q, a, anyStep(r)) {
				return
			}
		}
	}
}

// P16.1: what comes in goes out, as often as it came, and nothing else: all that was put, less what was refused, and what was put back.
func TestNothingIsLost(t *testing.T) {
	r := rand.New(rand.NewSource(61))
	for range 200 {
		q := made(t, 1+r.Intn(api.MaxQueue), 1+r.Intn(api.MaxBatch), 10)
		balance := map[string]int{}
		for range 200 {
			s := anyStep(r)
			switch s.kind {
			case doPut:
				if q.Put([]byte(s.items[0]), s.now) == api.OK {
					balance[s.items[0]]++
				}
			case doBack:
				q.Back(bytesOf(s.items)...)
				for _, item := range s.items {
					balance[item]++
				}
			default:
				takeInto(q, balance)
			}
		}
		for most := q.Len(); most > 0 && q.Len() > 0; most-- {
			takeInto(q, balance)
		}
		for item, n := range balance {
			if n != 0 {
				t.Errorf("P16.1: %q: %d more came in than went out", item, n)
			}
		}
	}
}

// takeInto takes a batch away, and notes each item of it.
func takeInto(q *batch.Queue, balance map[string]int) {
	for _, item := range q.Take() {
		balance[string(item)]--
	}
}

// R3: a refused Put changes nothing that any row of calls tells later.
func TestRefusedPutsChangeNothing(t *testing.T) {
	for _, wrong := range []step{putOf("x", least), putOf("", 0), putOf("a", 5), putOf("c", greatest)} {
		eachRow(shortSteps(), 3, func(row []step) bool {
			one, other := made(t, 2, 3, 10), made(t, 2, 3, 10)
			puts(t, one, 5, "a", "b")
			puts(t, other, 5, "a", "b")
			busy(t, "R3", one, wrong.items[0], wrong.now)
			for i, s := range row {
				got, want := does(one, s), does(other, s)
				if got != want || told(one) != told(other) {
					t.Errorf("R3: %v, refused, then %v: %s %s, want %s %s", wrong, row[:i+1], got, told(one), want, told(other))
					return false
				}
			}
			return true
		})
	}
}
