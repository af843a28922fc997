package front_test

import (
	"fmt"
	"testing"

	"broadsheet/api"
)

// P17.1, P17.2: the run of the chapter.
func TestRun(t *testing.T) {
	f, d, l := begun(t, "P17.1: the run", usual)
	submits(t, "P17.1: the run", f, item(1), 5, api.Accepted, 0)
	stands(t, "P17.1: the run", f, 1, item(1))
	steps(t, "P17.2: the run", f, 15, 0)
	stands(t, "P17.2: the run", f, 0, item(1))
	submits(t, "P17.1: the run", f, item(1), 16, api.Duplicate, 0)
	stands(t, "P17.1: the run", f, 0, item(1))
	hasLeaves(t, "P17.2: the run", l, item(1))
	tells(t, "P17.1: the run", d, lies(item(1)), itemSize, false)
}

// P17.1: example 1, and each way in which a manifest may be wrong: Invalid, nothing beside it, and nothing is done, also where the ledger has it, and where there is neither room nor power.
func TestSubmitOfNoManifest(t *testing.T) {
	for _, bad := range noManifests() {
		name := fmt.Sprintf("P17.1: %q", short(bad))
		f, d, l := begun(t, name, setting{1, 2, 0})
		d.Arm(1)
		submits(t, name, f, bad, 0, api.Invalid, 0)
		stands(t, name, f, 0)
		steps(t, name, f, greatest)
		armedSo(t, name, d, 1)
		submits(t, name+", no power", f, bad, 0, api.Invalid, 0)
		d.Crash(0)
		f = opened(t, name, d, l, setting{1, 2, 0}, 0)
		accepts(t, name, f, 0, 0, item(70))
		submits(t, name+", no room", f, bad, 0, api.Invalid, 0)
		stands(t, name+", no room", f, 1, item(70))
		tells(t, name+", no room", d, lies(item(70)), itemSize, false)
	}
	f, _, l := begun(t, "P17.1: nil", usual)
	if got := f.Submit(nil, 0); got != (api.Answer{Kind: api.Invalid}) {
		t.Errorf("P17.1: Submit(nil): %v", got)
	}
	logs(t, l, "rubbish", "")
	for _, bad := range []string{"rubbish", ""} {
		submits(t, "P17.1: a leaf that is no manifest", f, bad, 0, api.Invalid, 0)
	}
}

// P17.1: manifests of all forms are taken, one record each, and a byte is not overlooked.
func TestSubmitOfManifests(t *testing.T) {
	all := someManifests()
	f, d, _ := begun(t, "P17.1: manifests", setting{mostRoom, mostSize, mostWait})
	for n, text := range all {
		submits(t, "P17.1: manifests", f, text, -n, api.Accepted, n)
		stands(t, "P17.1: manifests", f, n+1, all[:n+1]...)
		tells(t, "P17.1: manifests", d, lies(all[:n+1]...), len(lies(all[:n+1]...)), false)
	}
	for n, text := range all {
		submits(t, "P17.1: manifests, again", f, text, 0, api.Accepted, n)
	}
	steps(t, "P17.1: manifests", f, least, upTo(0, 8)...)
	for n, text := range all[:8] {
		submits(t, "P17.1: manifests, as leaves", f, text, 0, api.Duplicate, n)
	}
	submits(t, "P17.1: manifests, again", f, all[8], 0, api.Accepted, 8)
}

// P17.1: what is Accepted is on the disk and synced ahead of the answer, one record each; it is two calls of the disk, an Append and a Sync.
func TestAnAcceptedOneIsSynced(t *testing.T) {
	f, d, l := begun(t, "P17.1: synced", setting{mostRoom, 1, 0})
	for n := range 40 {
		name := fmt.Sprintf("P17.1: receipt %d", n)
		d.Arm(3)
		submits(t, name, f, item(n+1), n, api.Accepted, n)
		tells(t, name, d, lies(items(1, n+1)...), itemSize*(n+1), false)
		armedSo(t, name, d, 1)
		d.Crash(0)
		f = opened(t, name, d, l, setting{mostRoom, 1, 0}, 1, items(1, n+1)...)
		steps(t, name, f, n, n)
	}
}

// P17.1: Duplicate and the leaf's number: of a manifest that the ledger has by this front's Step, by another front and by the ledger's own Add; nothing is done.
func TestSubmitOfALeaf(t *testing.T) {
	f, d, l := begun(t, "P17.1: a leaf", usual)
	logs(t, l, "rubbish", item(1))
	other := opened(t, "P17.1: another front", roomy(t), l, usual, 0)
	accepts(t, "P17.1: another front", other, 0, 0, item(2), item(3))
	accepts(t, "P17.1: a leaf", f, 0, 0, item(4), item(5))
	steps(t, "P17.1: another front", other, 0, 2, 3)
	steps(t, "P17.1: a leaf", f, 0, 4, 5)
	d.Arm(1)
	for n := 1; n < 6; n++ {
		submits(t, "P17.1: a leaf", f, item(n), 0, api.Duplicate, n)
		submits(t, "P17.1: a leaf", other, item(n), 0, api.Duplicate, n)
	}
	stands(t, "P17.1: a leaf", f, 0, item(4), item(5))
	stands(t, "P17.1: another front", other, 0, item(2), item(3))
	tells(t, "P17.1: a leaf", d, lies(items(4, 2)...), 2*itemSize, false)
	armedSo(t, "P17.1: a leaf", d, 1)
	submits(t, "P17.1: a leaf, no power", f, item(1), 0, api.Duplicate, 1)
}

// P17.1: one that waits and that the ledger has by now is a Duplicate; it waits on.
func TestSubmitOfALeafThatWaits(t *testing.T) {
	f, d, l := begun(t, "P17.1: a leaf that waits", setting{3, 4, 10})
	accepts(t, "P17.1: a leaf that waits", f, 0, 0, items(1, 3)...)
	logs(t, l, "rubbish", item(3), item(1))
	submits(t, "P17.1: a leaf that waits", f, item(1), 0, api.Duplicate, 2)
	submits(t, "P17.1: a leaf that waits", f, item(3), 0, api.Duplicate, 1)
	submits(t, "P17.1: one that waits alone", f, item(2), 0, api.Accepted, 1)
	stands(t, "P17.1: a leaf that waits", f, 3, items(1, 3)...)
	submits(t, "P17.1: leaves that wait take room", f, item(4), 0, api.Busy, 0)
	goesDark(t, d)
	submits(t, "P17.1: a leaf that waits, no power", f, item(1), 0, api.Duplicate, 2)
	steps(t, "P17.2: leaves that wait", f, 10, 2, 3, 1)
	hasLeaves(t, "P17.2: leaves that wait", l, "rubbish", item(3), item(1), item(2))
}

// P17.1: Accepted and the receipt that it has: of one that waits, at each place, where there is room, where none is, in the queue or on the disk, and where there is no power. Nothing is done, and it waits since it waited.
func TestSubmitOfOneThatWaits(t *testing.T) {
	for n := 1; n <= mostRoom; n++ {
		name := fmt.Sprintf("P17.1: one of %d", n)
		f, d, l := begun(t, name, setting{mostRoom, 1, 0})
		accepts(t, name, f, 0, 0, item(100), item(101))
		steps(t, name, f, 0, 0)
		steps(t, name, f, 0, 1) // so that a receipt is not a place in the queue
		waiting := items(1, n)
		accepts(t, name, f, 2, 0, waiting...)
		receipts := append(items(100, 2), waiting...)
		again := func(name string) {
			was := told(d)
			for i, text := range waiting {
				submits(t, name, f, text, 0, api.Accepted, 2+i)
			}
			if told(d) != was {
				t.Errorf("%s: the disk is %s, want %s", name, told(d), was)
			}
			stands(t, name, f, n, receipts...)
		}
		d.Arm(1)
		again(name)
		armedSo(t, name, d, 1)
		again(name + ", no power")
		d.Crash(0)
		f = opened(t, name, d, l, setting{1, 1, 0}, n, receipts...)
		again(name + ", no room")
		grows(t, d, 0)
		f = opened(t, name, d, l, setting{mostRoom, 1, 0}, n, receipts...)
		again(name + ", a full disk")
	}
}

// P17.1: to be submitted again is not to wait anew.
func TestSubmitAgainKeepsTheTime(t *testing.T) {
	f, _, _ := begun(t, "P17.1: again", setting{3, 3, 10})
	accepts(t, "P17.1: again", f, 0, 5, item(1))
	submits(t, "P17.1: again", f, item(1), 9, api.Accepted, 0)
	submits(t, "P17.1: again", f, item(1), 0, api.Accepted, 0)
	submits(t, "P17.1: again", f, item(1), least, api.Accepted, 0)
	steps(t, "P17.1: again", f, 14)
	steps(t, "P17.1: again", f, 15, 0)
}

// P17.1: where as many as room wait, a new one is Busy: nothing is written, and nothing waits more. Once there is room it is taken.
func TestSubmitIntoNoRoom(t *testing.T) {
	for room := 1; room <= mostRoom; room++ {
		for _, size := range []int{1, 3, mostSize} {
			name := fmt.Sprintf("P17.1: room %d, size %d", room, size)
			f, d, _ := begun(t, name, setting{room, size, 0})
			accepts(t, name, f, 0, 0, items(1, room)...)
			d.Arm(1)
			for range 3 {
				submits(t, name, f, item(99), 0, api.Busy, 0)
				stands(t, name, f, room, items(1, room)...)
				tells(t, name, d, lies(items(1, room)...), room*itemSize, false)
			}
			d.Arm(0)
			steps(t, name, f, 0, upTo(0, min(size, room))...)
			submits(t, name, f, item(99), 0, api.Accepted, room)
			stands(t, name, f, room-min(size, room)+1, append(items(1, room), item(99))...)
		}
	}
}

// P17.1: where the disk has too little room a new one is Busy, by one byte, too; there is no receipt, nothing waits more, and the disk is as it was. Where it just has room, and once there is room, it is taken.
func TestSubmitToAFullDisk(t *testing.T) {
	for n := range 3 {
		for lacks := range itemSize + 1 {
			name := fmt.Sprintf("P17.1: %d receipts, %d bytes lack", n, lacks)
			f, d, l := begun(t, name, usual)
			accepts(t, name, f, 0, 0, items(1, n)...)
			grows(t, d, itemSize-lacks)
			if lacks > 0 {
				for range 2 {
					submits(t, name, f, item(9), 0, api.Busy, 0)
					stands(t, name, f, n, items(1, n)...)
					tells(t, name, d, lies(items(1, n)...), n*itemSize, false)
				}
				grows(t, d, itemSize)
			}
			submits(t, name, f, item(9), 0, api.Accepted, n)
			stands(t, name, f, n+1, append(items(1, n), item(9))...)
			tells(t, name, d, lies(append(items(1, n), item(9))...), (n+1)*itemSize, false)
			submits(t, name+", full by now", f, item(10), 0, api.Busy, 0)
			opened(t, name+", anew", d, l, usual, n+1, append(items(1, n), item(9))...)
		}
	}
}

// P17.1: a shorter one is taken where a longer one is Busy.
func TestSubmitOfAShorterOne(t *testing.T) {
	short, long := laid("a", 1, filled(32, "f"), ""), laid("a", 1, filled(32, "f"), "x")
	f, d, _ := begun(t, "P17.1: one byte", usual)
	grows(t, d, len(lies(short)))
	submits(t, "P17.1: one byte too long", f, long, 0, api.Busy, 0)
	submits(t, "P17.1: not too long", f, short, 0, api.Accepted, 0)
}

// P17.1: where power goes at either call of the disk, and behind it, a new one is Busy: there is no receipt, and nothing waits more.
func TestSubmitWithoutPower(t *testing.T) {
	for call := range 3 { // 0: it was gone before
		for n := range 3 {
			name := fmt.Sprintf("P17.1: %d receipts, power goes at call %d", n, call)
			f, d, _ := begun(t, name, usual)
			accepts(t, name, f, 0, 0, items(1, n)...)
			text := lies(items(1, n)...)
			if call == 0 {
				goesDark(t, d)
			} else {
				d.Arm(call)
				text += lies(item(9))
			}
			for i := range 4 {
				submits(t, name, f, item(9+i), 0, api.Busy, 0)
				stands(t, name, f, n, items(1, n)...)
				tells(t, name, d, text, n*itemSize, true)
			}
			steps(t, name, f, 50, upTo(0, min(n, 2))...)
			submits(t, name, f, item(9), 0, api.Busy, 0)
		}
	}
}

// P17.1: the one whose Add was refused by power has a receipt behind the Crash, if all its bytes stayed, and none else.
func TestTheOneUnderWay(t *testing.T) {
	for call := 1; call < 3; call++ {
		for keep := -1; keep < itemSize+3; keep++ {
			name := fmt.Sprintf("P17.3: power goes at call %d, Crash(%d)", call, keep)
			f, d, l := begun(t, name, usual)
			accepts(t, name, f, 0, 0, item(1))
			d.Arm(call)
			submits(t, name, f, item(2), 0, api.Busy, 0)
			d.Crash(keep)
			if keep < itemSize {
				f = opened(t, name, d, l, usual, 1, item(1))
				submits(t, name, f, item(2), 0, api.Accepted, 1)
				continue
			}
			f = opened(t, name, d, l, usual, 2, item(1), item(2))
			submits(t, name, f, item(2), 0, api.Accepted, 1)
			stands(t, name, f, 2, item(1), item(2))
		}
	}
}

// state is how a front stands when something is submitted, and which answer comes first.
type state struct {
	manifest, leaf, waits, full, dark bool
}

// mustAnswer tells the kind.
func (s state) mustAnswer() int {
	for _, of := range []struct {
		holds bool
		kind  int
	}{{!s.manifest, api.Invalid}, {s.leaf, api.Duplicate}, {s.waits, api.Accepted}, {s.full || s.dark, api.Busy}} {
		if of.holds {
			return of.kind
		}
	}
	return api.Accepted
}

// P17.1, R3: which answer comes first, where several apply: each way in which they come together.
func TestWhichAnswerComesFirst(t *testing.T) {
	for n := range 32 {
		s := state{n&1 > 0, n&2 > 0, n&4 > 0, n&8 > 0, n&16 > 0}
		if s.waits && !s.manifest {
			continue // only a manifest waits
		}
		text := item(7)
		if !s.manifest {
			text = text[1:]
		}
		name := fmt.Sprintf("P17.1: %+v", s)
		f, d, l := begun(t, name, setting{3, 4, 10})
		receipts, number := []string{item(1), item(2)}, 2
		accepts(t, name, f, 0, 0, receipts...)
		if s.waits {
			accepts(t, name, f, 2, 0, text)
			receipts = append(receipts, text)
		} else if s.full {
			accepts(t, name, f, 2, 0, item(3))
			receipts, number = append(receipts, item(3)), 3
		}
		if s.leaf {
			logs(t, l, "x", text)
			number = 1
		}
		if s.dark {
			goesDark(t, d)
		}
		kind := s.mustAnswer()
		if kind == api.Invalid || kind == api.Busy {
			number = 0
		}
		submits(t, name, f, text, 0, kind, number)
		if kind == api.Accepted && !s.waits {
			receipts = append(receipts, text)
		}
		stands(t, name, f, len(receipts), receipts...)
		tells(t, name, d, lies(receipts...), len(receipts)*itemSize, s.dark)
	}
}

// P17.1: receipts are numbered on, through Steps and through Open.
func TestReceiptsAreNumberedOn(t *testing.T) {
	s := setting{4, 3, 10}
	f, d, l := begun(t, "P17.1: numbers", s)
	all := items(1, 60)
	for n := range 60 {
		name := fmt.Sprintf("P17.1: receipt %d", n)
		submits(t, name, f, all[n], n, api.Accepted, n)
		stands(t, name, f, n%3+1, all[:n+1]...)
		switch {
		case n%3 == 2:
			steps(t, name, f, n, n-2, n-1, n)
			stands(t, name, f, 0, all[:n+1]...)
		case n%7 == 0:
			f = opened(t, name, d, l, s, n%3+1, all[:n+1]...)
		}
	}
	hasLeaves(t, "P17.1: numbers", l, all...)
	for n, text := range all {
		submits(t, "P17.1: numbers", f, text, 0, api.Duplicate, n)
	}
	tells(t, "P17.1: numbers", d, lies(all...), 60*itemSize, false)
}

// P17.1, P17.3: one ledger is another one: what has a receipt waits for each in turn, and none is numbered anew.
func TestTheSameReceiptsWithAnotherLedger(t *testing.T) {
	f, d, l := begun(t, "P17.3: one ledger", usual)
	accepts(t, "P17.3: one ledger", f, 0, 0, item(1), item(2))
	steps(t, "P17.3: one ledger", f, 0, 0, 1)
	other := logOf(t, item(2))
	f = opened(t, "P17.3: another ledger", d, other, usual, 1, item(1), item(2))
	submits(t, "P17.3: another ledger", f, item(1), 0, api.Accepted, 0)
	submits(t, "P17.3: another ledger", f, item(2), 0, api.Duplicate, 0)
	submits(t, "P17.3: another ledger", f, item(3), 0, api.Accepted, 2)
	steps(t, "P17.3: another ledger", f, 0, 1, 2)
	hasLeaves(t, "P17.3: another ledger", other, item(2), item(1), item(3))
	hasLeaves(t, "P17.3: one ledger", l, item(1), item(2))
	opened(t, "P17.3: one ledger again", d, l, usual, 1, items(1, 3)...)
}
