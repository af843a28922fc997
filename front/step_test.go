package front_test

import (
	"fmt"
	"slices"
	"testing"

	"broadsheet/api"
	"broadsheet/disk"
	"broadsheet/front"
	"broadsheet/ledger"
)

// anyTime tells times near and far, on both sides of 0.
func anyTime() []int {
	return []int{least, least + 1, -1 << 40, -1001, -1000, -11, -10, -1, 0, 1, 9, 10, 11, 999, 1000, 1001, 1 << 40, greatest - 1000, greatest - 1, greatest}
}

// P17.2: example 2: a Step of an empty queue is nothing, at any time, whatever is the matter with the disks.
func TestStepOfNothing(t *testing.T) {
	for _, wait := range []int{0, 10, mostWait} {
		s := setting{3, 1, wait}
		f, d, l := begun(t, "P17.2: example 2", s)
		for _, now := range anyTime() {
			steps(t, "P17.2: example 2", f, now)
		}
		accepts(t, "P17.2: nothing is left", f, 0, 5, item(1))
		steps(t, "P17.2: nothing is left", f, 5, 0)
		goesDark(t, d)
		for _, now := range anyTime() {
			steps(t, "P17.2: nothing is left", f, now)
		}
		stands(t, "P17.2: nothing is left", f, 0, item(1))
		hasLeaves(t, "P17.2: nothing is left", l, item(1))
	}
}

// P17.2: a Step that does nothing makes no call of either disk; one that does makes the ledger's two alone.
func TestStepCallsTheLedgerAlone(t *testing.T) {
	d, ld := roomy(t), roomy(t)
	l := logOn(t, ld)
	f := opened(t, "P17.2: calls", d, l, usual, 0)
	accepts(t, "P17.2: calls", f, 0, 5, item(1))
	d.Arm(1)
	ld.Arm(3)
	for _, now := range []int{least, 0, 14} {
		steps(t, "P17.2: not due", f, now)
	}
	steps(t, "P17.2: due", f, 15, 0)
	steps(t, "P17.2: nothing is left", f, greatest)
	tells(t, "P17.2: one batch", ld, written([]string{item(1)}), len(written([]string{item(1)})), false)
	armedSo(t, "P17.2: the front's disk", d, 1)
	armedSo(t, "P17.2: the ledger's disk", ld, 1)
}

// P17.2: fewer than size are due just at the first one's time and wait, and behind it, whatever the times of the others and of Steps before.
func TestStepAtItsTime(t *testing.T) {
	for _, wait := range []int{0, 1, 10, mostWait} {
		for _, since := range []int{-1 << 40, -1000, -5, 0, 5, 1 << 40} {
			for _, others := range [][]int{nil, {since + 1}, {since - 1000}, {1 << 40, least}, {least, greatest}} {
				for _, late := range []int{0, 1, 1000, greatest - since - wait} {
					name := fmt.Sprintf("P17.2: wait %d, since %d, then %v", wait, since, others)
					f, _, l := begun(t, name, setting{mostRoom, mostSize, wait})
					all := items(1, 1+len(others))
					accepts(t, name, f, 0, since, all[0])
					for i, now := range others {
						accepts(t, name, f, 1+i, now, all[1+i])
					}
					for _, now := range []int{since + wait - 1, least + 1, since - 1, since + wait - 1} {
						steps(t, name, f, now)
					}
					stands(t, name, f, len(all), all...)
					steps(t, name, f, since+wait+max(late, 0), upTo(0, len(all))...)
					stands(t, name, f, 0, all...)
					hasLeaves(t, name, l, all...)
				}
			}
		}
	}
}

// P17.2: times need not rise: one who came first is asked, though another one came at an earlier time.
func TestTimesThatDoNotRise(t *testing.T) {
	f, _, _ := begun(t, "P17.2: times", setting{3, 3, 10})
	accepts(t, "P17.2: times", f, 0, 100, item(1))
	accepts(t, "P17.2: times", f, 1, 5, item(2))
	steps(t, "P17.2: times", f, 15)
	steps(t, "P17.2: times", f, 109)
	steps(t, "P17.2: times", f, 110, 0, 1)
	accepts(t, "P17.2: times", f, 2, -50, item(3))
	steps(t, "P17.2: times", f, -41)
	steps(t, "P17.2: times", f, -40, 2)
}

// P17.2: as soon as size wait, at any time.
func TestStepAsSoonAsSizeWait(t *testing.T) {
	for size := 1; size <= mostSize; size++ {
		for _, now := range anyTime() {
			name := fmt.Sprintf("P17.2: size %d", size)
			f, _, l := begun(t, name, setting{mostRoom, size, mostWait})
			all := items(1, size)
			for n := range size - 1 {
				accepts(t, name, f, n, 5000, all[n])
				steps(t, name+", too few", f, 5999)
			}
			accepts(t, name, f, size-1, 5000, all[size-1])
			steps(t, name, f, now, upTo(0, size)...)
			steps(t, name+", nothing is left", f, now)
			hasLeaves(t, name, l, all...)
		}
	}
}

// P17.2: a Step takes size at most, the first ones, and the rest wait on since they waited.
func TestStepTakesTheFirst(t *testing.T) {
	for size := 1; size <= mostSize; size++ {
		for n := 0; n <= mostRoom; n++ {
			name := fmt.Sprintf("P17.2: %d of %d", size, n)
			f, _, l := begun(t, name, setting{mostRoom, size, 10})
			all := items(1, n)
			for i, text := range all {
				accepts(t, name, f, i, 100*i, text)
			}
			left := n
			for left >= size {
				steps(t, name, f, least, upTo(n-left, size)...)
				left -= size
				stands(t, name, f, left, all...)
				hasLeaves(t, name, l, all[:n-left]...)
			}
			if left > 0 {
				steps(t, name+", the rest", f, 100*(n-left)+9)
				steps(t, name+", the rest", f, 100*(n-left)+10, upTo(n-left, left)...)
			}
			steps(t, name+", nothing is left", f, greatest)
			hasLeaves(t, name, l, all...)
		}
	}
}

// P17.2: leaves are told by their numbers, also those that the ledger had by now: of each that was taken one, in their order.
func TestStepOfLeaves(t *testing.T) {
	all := items(1, 4)
	for had := range 1 << len(all) {
		name := fmt.Sprintf("P17.2: leaves %b", had)
		f, _, l := begun(t, name, setting{mostRoom, 4, 10})
		accepts(t, name, f, 0, 0, all...)
		leaves := []string{"x", item(50)}
		for i := len(all) - 1; i >= 0; i-- {
			if had>>i&1 == 1 {
				leaves = append(leaves, all[i])
			}
		}
		logs(t, l, leaves...)
		for _, text := range all {
			if !slices.Contains(leaves, text) {
				leaves = append(leaves, text)
			}
		}
		var want []int
		for _, text := range all {
			want = append(want, slices.Index(leaves, text))
		}
		steps(t, name, f, 0, want...)
		hasLeaves(t, name, l, leaves...)
		stands(t, name, f, 0, all...)
	}
}

// P17.1, P17.2: behind Open what waits there waits since ever, and what comes then since it came.
func TestStepBehindOpen(t *testing.T) {
	for n := range 4 {
		for _, now := range anyTime() {
			name := fmt.Sprintf("P17.2: %d wait at Open", n)
			s := setting{mostRoom, mostSize, 10}
			f, d, l := begun(t, name, s)
			accepts(t, name, f, 0, 5000, items(1, n)...)
			steps(t, name, f, 5009)
			f = opened(t, name, d, l, s, n, items(1, n)...)
			if n > 0 {
				accepts(t, name, f, n, 5000, item(60))
				steps(t, name, f, now, upTo(0, n+1)...)
			}
			accepts(t, name, f, f.Receipts(), 5000, item(70))
			steps(t, name, f, 5009)
			steps(t, name, f, 5010, l.Size())
		}
	}
}

// refusing is a ledger that refuses an Add of a batch, and how it takes it again.
type refusing struct {
	name  string
	why   api.Errno
	spoil func(t *testing.T, ld *disk.Disk, batch int) // batch: how many bytes the record of it takes
	mend  func(t *testing.T, ld *disk.Disk)            // nil: it is opened anew behind a Crash
}

// refusals tells the ways in which a ledger may refuse.
func refusals() []refusing {
	grow := func(t *testing.T, ld *disk.Disk) {
		t.Helper()
		grows(t, ld, 9999)
	}
	return []refusing{
		{"no room", api.ErrFull, func(t *testing.T, ld *disk.Disk, _ int) { grows(t, ld, 0) }, grow},
		{"one byte lacks", api.ErrFull, func(t *testing.T, ld *disk.Disk, batch int) { grows(t, ld, batch-1) }, grow},
		{"power is gone", api.ErrFull, func(t *testing.T, ld *disk.Disk, _ int) { goesDark(t, ld) }, nil},
		{"power goes at the Append", api.ErrFull, func(_ *testing.T, ld *disk.Disk, _ int) { ld.Arm(1) }, nil},
		{"power goes at the Sync", api.ErrFull, func(_ *testing.T, ld *disk.Disk, _ int) { ld.Arm(2) }, nil},
	}
}

// P17.2: what the ledger refuses is answered, without leaves; all that were taken wait again, in their order, ahead of all others, and are due; nothing else is changed. Once the ledger takes it, a Step hands it on.
func TestStepThatIsRefused(t *testing.T) {
	for _, r := range refusals() {
		for size := 1; size <= 5; size++ {
			for n := 1; n <= 6; n++ {
				refusedAndMended(t, r, size, n)
			}
		}
	}
}

// refusedAndMended lets n manifests wait for batches of that size, whose ledger refuses, and then takes them.
func refusedAndMended(t *testing.T, r refusing, size, n int) {
	t.Helper()
	name := fmt.Sprintf("P17.2: %s, %d of %d", r.name, size, n)
	s := setting{mostRoom, size, mostWait}
	d, ld := roomy(t), roomy(t)
	l := logOn(t, ld)
	logs(t, l, "x")
	f := opened(t, name, d, l, s, 0)
	all := items(1, n)
	accepts(t, name, f, 0, 5, all...)
	batch := all[:min(size, n)]
	r.spoil(t, ld, len(written(batch)))
	if n < size {
		steps(t, name+", too early", f, 5+mostWait-1)
	}
	for _, now := range []int{5 + mostWait, least, 0, greatest} {
		stepsNot(t, name, f, now, r.why)
		stands(t, name, f, n, all...)
		hasLeaves(t, name, l, "x")
		tells(t, name, d, lies(all...), n*itemSize, false)
	}
	accepts(t, name+", behind a refusal", f, n, 0, item(99))
	for i, text := range all {
		submits(t, name+", behind a refusal", f, text, 0, api.Accepted, i)
	}
	all = append(all, item(99))
	if r.mend != nil {
		r.mend(t, ld)
		takesAll(t, name+", mended", f, l, size, []string{"x"}, all)
		return
	}
	ld.Crash(0)
	l = logOn(t, ld)
	hasLeaves(t, name+", behind a Crash", l, "x")
	takesAll(t, name+", behind a Crash", opened(t, name, d, l, s, n+1, all...), l, size, []string{"x"}, all)
}

// takesAll holds that Steps make leaves of all of these, in their order, behind those that are there: the first batch at any time, and the others, which may have come behind a refusal, late enough.
func takesAll(t *testing.T, name string, f *front.Front, l *ledger.Ledger, size int, leaves, all []string) {
	t.Helper()
	for left := len(all); left > 0; {
		k := min(left, size)
		now := greatest
		if left == len(all) {
			now = least
		}
		steps(t, name, f, now, upTo(len(leaves)+len(all)-left, k)...)
		left -= k
	}
	stands(t, name, f, 0, all...)
	hasLeaves(t, name, l, append(slices.Clone(leaves), all...)...)
}

// P17.2: where the ledger's disk just has room for the batch it is taken, and the next one is not.
func TestStepWithJustRoom(t *testing.T) {
	for size := 1; size <= 3; size++ {
		name := fmt.Sprintf("P17.2: just room for %d", size)
		d, ld := roomy(t), roomy(t)
		l := logOn(t, ld)
		f := opened(t, name, d, l, setting{mostRoom, size, 10}, 0)
		all := items(1, 2*size)
		accepts(t, name, f, 0, 0, all...)
		grows(t, ld, len(written(all[:size])))
		steps(t, name, f, 0, upTo(0, size)...)
		stepsNot(t, name, f, 0, api.ErrFull)
		stands(t, name, f, size, all...)
		hasLeaves(t, name, l, all[:size]...)
		grows(t, ld, len(written(all[size:])))
		steps(t, name, f, least, upTo(size, size)...)
		hasLeaves(t, name, l, all...)
	}
}

// P17.2: behind a refusal a batch is what is first then: what was put back, and what came behind it.
func TestABatchBehindARefusal(t *testing.T) {
	ld := roomy(t)
	l := logOn(t, ld)
	f := opened(t, "P17.2: a refusal", roomy(t), l, setting{mostRoom, 3, 10}, 0)
	accepts(t, "P17.2: a refusal", f, 0, 50, item(1), item(2))
	grows(t, ld, 0)
	stepsNot(t, "P17.2: a refusal", f, 60, api.ErrFull)
	accepts(t, "P17.2: a refusal", f, 2, 50, item(3), item(4))
	stepsNot(t, "P17.2: a refusal", f, 0, api.ErrFull)
	grows(t, ld, 9999)
	steps(t, "P17.2: taken", f, 0, 0, 1, 2)
	steps(t, "P17.2: one came later", f, 59)
	steps(t, "P17.2: one came later", f, 60, 3)
	hasLeaves(t, "P17.2: taken", l, items(1, 4)...)
}

// P17.2: a ledger that has no place for as many leaves refuses by ErrLong: what was taken waits again; what are leaves by now is taken all the same.
func TestStepToAFullLedger(t *testing.T) {
	for room := range 4 {
		name := fmt.Sprintf("P17.2: place for %d leaves", room)
		f, _, l := begun(t, name, setting{mostRoom, 3, 10})
		logs(t, l, items(100, most-room)...)
		accepts(t, name, f, 0, 0, items(1, 3)...)
		if room == 3 {
			steps(t, name, f, 0, most-3, most-2, most-1)
			continue
		}
		for range 3 {
			stepsNot(t, name, f, least, api.ErrLong)
			stands(t, name, f, 3, items(1, 3)...)
		}
		logs(t, l, items(1, room)...)
		for i := range room {
			submits(t, name, f, item(1+i), 0, api.Duplicate, most-room+i)
		}
		submits(t, name, f, item(3), 0, api.Accepted, 2)
		stepsNot(t, name, f, least, api.ErrLong)
		stands(t, name, f, 3, items(1, 3)...)
	}
	f, _, l := begun(t, "P17.2: a full ledger", usual)
	accepts(t, "P17.2: a full ledger", f, 0, 0, item(1), item(2))
	logs(t, l, append([]string{item(2), item(1)}, items(100, most-2)...)...)
	steps(t, "P17.2: leaves of a full ledger", f, 0, 1, 0)
}

// P17.2: Steps until nothing waits: each manifest that has a receipt is a leaf, in order, each once, also where the ledger refuses now and then.
func TestStepsUntilNothingWaits(t *testing.T) {
	for _, s := range []setting{{1, 1, 0}, {2, 3, 10}, {5, 2, 7}, {mostRoom, mostSize, mostWait}, {mostRoom, 1, 3}} {
		name := fmt.Sprintf("P17.2: %+v", s)
		d, ld := roomy(t), roomy(t)
		l := logOn(t, ld)
		f := opened(t, name, d, l, s, 0)
		var accepted []string
		for n := range 100 {
			ld.Grow(ld.Size() + n%5*60)
			if f.Submit([]byte(item(n+1)), n).Kind == api.Accepted {
				accepted = append(accepted, item(n+1))
			}
			f.Step(n)
		}
		grows(t, ld, 20000)
		for most := 100; most > 0 && f.Waits() > 0; most-- {
			f.Step(greatest)
		}
		stands(t, name, f, 0, accepted...)
		hasLeaves(t, name, l, accepted...)
	}
}
