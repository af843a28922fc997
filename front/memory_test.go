package front_test

import (
	"fmt"
	"slices"
	"testing"

	"broadsheet/api"
)

// spoil writes over b and over the room behind it.
func spoil(b []byte) {
	b = b[:cap(b)]
	for i := range b {
		b[i] ^= 0x5a
	}
}

// wide tells the text with room behind it, in which there is something.
func wide(text string) []byte { return []byte(text + "behind it")[:len(text)] }

// R2: what is submitted is not changed, nor the room behind it, whatever is answered.
func TestSubmittedTextsStay(t *testing.T) {
	for _, text := range append(noManifests(), item(1), item(2), item(3), item(4)) {
		f, d, l := begun(t, "R2", usual)
		logs(t, l, item(1))
		accepts(t, "R2", f, 0, 0, item(2))
		for range 3 {
			b := wide(text)
			was := string(b[:cap(b)])
			f.Submit(b, 0)
			if string(b[:cap(b)]) != was {
				t.Errorf("R2: Submit(%q) changed what was handed in", short(text))
			}
			grows(t, d, 0)
		}
	}
}

// R2: what was submitted may be written over without any later answer changing.
func TestNothingSubmittedIsKept(t *testing.T) {
	f, d, l := begun(t, "R2", setting{mostRoom, 3, 10})
	all := items(1, 5)
	for n, text := range all {
		b := wide(text)
		if got := f.Submit(b, 0); got != (api.Answer{Kind: api.Accepted, Number: n}) {
			t.Errorf("R2: Submit: %v", got)
		}
		spoil(b)
		stands(t, "R2: what was submitted is written over", f, n+1, all[:n+1]...)
		b = wide(text)
		f.Submit(b, 0)
		spoil(b)
		f.Submit(b, 0) // no manifest any more
		stands(t, "R2: what was submitted is written over", f, n+1, all[:n+1]...)
	}
	tells(t, "R2: what was submitted is written over", d, lies(all...), 5*itemSize, false)
	accepts(t, "R2: what was submitted is written over", f, 0, 0, all...)
	steps(t, "R2: what was submitted is written over", f, 0, 0, 1, 2)
	steps(t, "R2: what was submitted is written over", f, 10, 3, 4)
	hasLeaves(t, "R2: what was submitted is written over", l, all...)
}

// R2: one text in one place, written over with the next one, is each time another one.
func TestOnePlaceForAll(t *testing.T) {
	f, _, l := begun(t, "R2", usual)
	place := make([]byte, len(item(1)), 100)
	for n := range 30 {
		copy(place, item(n+1))
		if got := f.Submit(place, n); got != (api.Answer{Kind: api.Accepted, Number: n}) {
			t.Errorf("R2: Submit: %v", got)
		}
		if n%2 == 1 {
			steps(t, "R2: one place", f, n, n-1, n)
		}
	}
	stands(t, "R2: one place", f, 0, items(1, 30)...)
	hasLeaves(t, "R2: one place", l, items(1, 30)...)
}

// R2: what Receipt and Step told may be written over without any later answer changing.
func TestAnswersAreNew(t *testing.T) {
	f, d, l := begun(t, "R2", setting{mostRoom, 3, 10})
	all := items(1, 8)
	accepts(t, "R2", f, 0, 0, all...)
	spoils := func(waits int) {
		t.Helper()
		for range 2 {
			for n := range all {
				b, _ := f.Receipt(n)
				spoil(b)
			}
			stands(t, "R2: receipts are written over", f, waits, all...)
		}
		spoil(d.Bytes())
	}
	spoils(8)
	for from := 0; from < 6; from += 3 {
		leaves, why := f.Step(0)
		if why != api.OK || !slices.Equal(leaves, upTo(from, 3)) {
			t.Errorf("R2: Step: %v, %v", leaves, why)
		}
		clear(leaves[:cap(leaves)])
		spoils(5 - from)
		hasLeaves(t, "R2: leaves are written over", l, all[:from+3]...)
	}
	steps(t, "R2: answers are written over", f, 10, 6, 7)
	for n, text := range all {
		submits(t, "R2: answers are written over", f, text, 0, api.Duplicate, n)
	}
	opened(t, "R2: answers are written over", d, l, usual, 0, all...)
}

// R2: a receipt that was told is submitted again and to another front, and then written over.
func TestItsOwnAnswersSubmitted(t *testing.T) {
	f, _, l := begun(t, "R2", usual)
	other := opened(t, "R2", roomy(t), l, usual, 0)
	accepts(t, "R2", f, 0, 0, item(1), item(2))
	for n := range 2 {
		b, _ := f.Receipt(n)
		f.Submit(b, 0)
		other.Submit(b, 0)
		spoil(b)
	}
	stands(t, "R2: its own receipts", f, 2, item(1), item(2))
	stands(t, "R2: another one's receipts", other, 2, item(1), item(2))
	steps(t, "R2: another one's receipts", other, 0, 0, 1)
	hasLeaves(t, "R2: another one's receipts", l, item(1), item(2))
}

// R2: what a refused Step took and put back is by itself: what is written over then is nothing to it.
func TestARefusedStepKeepsItsOwn(t *testing.T) {
	ld := roomy(t)
	l := logOn(t, ld)
	f := opened(t, "R2", roomy(t), l, usual, 0)
	b := wide(item(1))
	f.Submit(b, 0)
	grows(t, ld, 0)
	for range 2 {
		stepsNot(t, "R2: refused", f, 10, api.ErrFull)
		spoil(b)
		told, _ := f.Receipt(0)
		spoil(told)
	}
	grows(t, ld, 999)
	steps(t, "R2: refused, then taken", f, least, 0)
	hasLeaves(t, "R2: refused, then taken", l, item(1))
}

// marks writes a mark of its own over each text, the room behind it included, and then holds that each has its own.
func marks(t *testing.T, name string, texts [][]byte) {
	t.Helper()
	for n, b := range texts {
		for i := range b[:cap(b)] {
			b[:cap(b)][i] = byte(n + 1)
		}
	}
	for n, b := range texts {
		for _, got := range b[:cap(b)] {
			if got != byte(n+1) {
				t.Errorf("R2: %s: text %d shares memory with another one", name, n)
				return
			}
		}
	}
}

// R2: no two answers share memory, nor with what was handed in, nor with what the ledger and the disk tell.
func TestAnswersAreApart(t *testing.T) {
	f, d, l := begun(t, "R2", setting{mostRoom, mostSize, 10})
	var texts [][]byte
	for _, text := range items(1, 8) {
		b := wide(text)
		f.Submit(b, 0)
		texts = append(texts, b)
	}
	ask := func() {
		for n := range 8 {
			one, _ := f.Receipt(n)
			other, _ := f.Receipt(n)
			texts = append(texts, one, other)
		}
		texts = append(texts, d.Bytes())
	}
	ask()
	leaves, _ := f.Step(0)
	ask()
	for n := range 8 {
		b, _ := l.Entry(n)
		texts = append(texts, b)
	}
	marks(t, "texts", texts)
	accepts(t, "R2", f, 8, 0, items(9, 8)...)
	more, _ := f.Step(0)
	clear(leaves[:cap(leaves)])
	if !slices.Equal(more, upTo(8, 8)) {
		t.Errorf("R2: leaves share memory: %v", more)
	}
	stands(t, "R2: answers that are marked", f, 0, items(1, 16)...)
	hasLeaves(t, "R2: answers that are marked", l, items(1, 16)...)
}

// R2: the disk and the ledger are handed on, not copied: what is done to them is seen by the front, and what it does by them.
func TestTheDiskAndTheLedgerAreHandedOn(t *testing.T) {
	d, ld := made(t, 0), made(t, 0)
	l := logOn(t, ld)
	f := opened(t, "R2", d, l, usual, 0)
	submits(t, "R2: no room", f, item(1), 0, api.Busy, 0)
	d.Grow(itemSize)
	submits(t, "R2: room", f, item(1), 0, api.Accepted, 0)
	tells(t, "R2: room", d, lies(item(1)), itemSize, false)
	stepsNot(t, "R2: no room", f, 10, api.ErrFull)
	ld.Grow(999)
	logs(t, l, "x", item(7))
	submits(t, "R2: a leaf", f, item(7), 0, api.Duplicate, 1)
	steps(t, "R2: room", f, 10, 2)
	hasLeaves(t, "R2: room", l, "x", item(7), item(1))
	tells(t, "R2: room", ld, written([]string{"x", item(7)}, []string{item(1)}), ld.Size(), false)
}

// R4, R5: the room behind what is submitted is not read: with a manifest in all of it, its beginning is none.
func TestTheRoomBehindIsNotRead(t *testing.T) {
	for n := range item(1) {
		f, _, _ := begun(t, "R5", usual)
		if got := f.Submit([]byte(item(1))[:n], 0); got != (api.Answer{Kind: api.Invalid}) {
			t.Errorf("R5: Submit of the first %d bytes: %v", n, got)
		}
		longer := []byte(item(1) + fmt.Sprint(n))
		if got := f.Submit(longer[:len(item(1))], 0); got != (api.Answer{Kind: api.Accepted}) {
			t.Errorf("R5: Submit with %d behind it: %v", n, got)
		}
		stands(t, "R5", f, 1, item(1))
	}
}
