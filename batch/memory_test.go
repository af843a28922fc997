package batch_test

import (
	"bytes"
	"fmt"
	"slices"
	"testing"

	"broadsheet/api"
	"broadsheet/batch"
)

// spoil writes over b and over the room behind it.
func spoil(b []byte) {
	b = b[:cap(b)]
	for i := range b {
		b[i] ^= 0x5a
	}
}

// spoilList writes over all that l reaches, the room behind it too, and the list itself last.
func spoilList(l [][]byte) {
	for _, b := range l[:cap(l)] {
		spoil(b)
	}
	for i := range l[:cap(l)] {
		l[:cap(l)][i] = []byte("spoilt")
	}
}

// wide tells the text with room behind it, in which there is something.
func wide(text string) []byte { return []byte(text + "behind it")[:len(text)] }

// wideList tells the items, each with room behind it, in a list with room behind it.
func wideList(items []string) [][]byte {
	list := make([][]byte, 0, len(items)+3)
	for _, item := range items {
		list = append(list, wide(item))
	}
	return append(list, wide("x"), wide("y"), wide("z"))[:len(items)]
}

// reach tells all bytes that l reaches, the room behind each text and behind the list, too, and where they lie.
func reach(l [][]byte) string {
	text := ""
	for _, b := range l[:cap(l)] {
		text += fmt.Sprintf("%d %d %p %x\n", len(b), cap(b), b, b[:cap(b)])
	}
	return text
}

// apart holds that no two of the texts share memory, nor with the list, the room behind each included: each of them is marked, and then each has its own mark.
func apart(t *testing.T, name string, lists ...[][]byte) {
	t.Helper()
	var all [][]byte
	for _, l := range lists {
		all = append(all, l...)
	}
	for n, b := range all {
		for i := range b[:cap(b)] {
			b[:cap(b)][i] = byte(n + 1)
		}
	}
	for n, b := range all {
		if !bytes.Equal(b[:cap(b)], bytes.Repeat([]byte{byte(n + 1)}, cap(b))) {
			t.Errorf("R2: %s: text %d shares memory with another one", name, n)
			return
		}
	}
	for n, l := range lists {
		for i := range l[:cap(l)] {
			l[:cap(l)][i] = []byte(fmt.Sprint(n))
		}
	}
	for n, l := range lists {
		for _, b := range l[:cap(l)] {
			if string(b) != fmt.Sprint(n) {
				t.Errorf("R2: %s: list %d shares memory with another one", name, n)
				return
			}
		}
	}
}

// lists tells items of several lengths, the same one twice among them.
func lists() [][]string {
	return [][]string{{}, {""}, {"a"}, {"a", "a"}, {"a", "", "bb", "a"}, {"", "", ""}, {string(bytes.Repeat([]byte("long "), 50)), "m", "n"}, named(api.MaxQueue), named(40)}
}

// R2, R5: items that are handed to Put, Has and Back are not changed, taken or refused, nor the list, nor the room behind them.
func TestItemsStay(t *testing.T) {
	for _, items := range lists() {
		q := made(t, 3, 2, 10)
		list := wideList(items)
		was := reach(list)
		for _, item := range list {
			q.Put(item, 5)
			q.Has(item)
		}
		q.Back(list...)
		q.Back(list...)
		q.Has(nil)
		q.Due(5)
		for range 3 {
			spoilList(q.All())
			spoilList(q.Take())
		}
		q.Back([]byte("m"))
		if reach(list) != was {
			t.Errorf("R2: %q: what was handed in is changed", items)
		}
	}
}

// R2: items that were handed to Put, and the room behind them, may be written over without any later answer changing.
func TestPutKeepsNothing(t *testing.T) {
	for _, items := range lists() {
		q := made(t, api.MaxQueue, 3, 10)
		list := wideList(items)
		for i, b := range list[:min(len(list), api.MaxQueue)] {
			if why := q.Put(b, 5); why != api.OK {
				t.Errorf("P16.1: Put: %v", why)
			}
			spoil(b)
			stands(t, "R2: an item that is written over", q, items[:i+1]...)
		}
		asked := wide("m")
		q.Has(asked)
		spoil(asked)
		spoilList(list)
		want := items[:min(len(items), api.MaxQueue)]
		stands(t, "R2: items that are written over", q, want...)
		takes(t, "R2: items that are written over", q, want[:min(len(want), 3)]...)
	}
}

// R2: the items that were handed to Back, the list of them, and the room behind all, may be written over without any later answer changing.
func TestBackKeepsNothing(t *testing.T) {
	for _, items := range lists() {
		q := made(t, 4, 8, 10)
		puts(t, q, 5, "m", "n")
		list := wideList(items)
		q.Back(list...)
		spoilList(list)
		want := slices.Concat(items, []string{"m", "n"})
		stands(t, "R2: Back's items are written over", q, want...)
		again := wideList(items)
		q.Back(again...)
		spoilList(again)
		spoilList(list)
		want = slices.Concat(items, want)
		stands(t, "R2: Back's items are written over, twice", q, want...)
		takes(t, "R2: Back's items are written over", q, want[:min(8, len(want))]...)
		stands(t, "R2: Back's items are written over, and some taken", q, want[min(8, len(want)):]...)
	}
}

// R2: Back's list does not grow into the room behind the list that was handed in, and a later Put does not either.
func TestBackLeavesTheRoomBehindItsList(t *testing.T) {
	q := made(t, 9, 3, 10)
	puts(t, q, 5, "m", "n")
	list := wideList([]string{"a", "b"})
	was := reach(list)
	q.Back(list...)
	puts(t, q, 5, "c")
	takes(t, "R2", q, "a", "b", "m")
	q.Back([]byte("ab"))
	if reach(list) != was {
		t.Error("R2: the room behind Back's list is changed")
	}
	stands(t, "R2", q, "ab", "n", "c")
}

// R2: one text several times in one list, and in several calls.
func TestOneTextOften(t *testing.T) {
	q := made(t, 9, 3, 10)
	b := wide("ab")
	q.Put(b, 5)
	q.Back(b, b, b)
	q.Put(b, 5)
	apart(t, "one text often, All", q.All())
	spoil(b)
	stands(t, "R2: one text often", q, "ab", "ab", "ab", "ab", "ab")
	apart(t, "one text often, Take", q.Take())
	stands(t, "R2: one text often, taken", q, "ab", "ab")
}

// filled tells a queue with the items, the last ones of them put, the others put back.
func filled(t *testing.T, items []string) *batch.Queue {
	t.Helper()
	q := made(t, 4, 5, 10)
	n := max(len(items)-2, 0)
	puts(t, q, 5, items[n:]...)
	q.Back(bytesOf(items[:n])...)
	return q
}

// R2: no two lists of an answer share memory, nor do those of several answers.
func TestAnswersAreApart(t *testing.T) {
	for _, items := range lists() {
		q := filled(t, items)
		one, other := q.All(), q.All()
		apart(t, fmt.Sprintf("All of %d", len(items)), one, other)
		stands(t, "R2: All, marked", q, items...)
		all, first := q.All(), q.Take()
		second := q.Take()
		apart(t, fmt.Sprintf("All and Take of %d", len(items)), one, other, all, first, second, q.All())
		left := items[min(10, len(items)):]
		stands(t, "R2: All and Take, marked", q, left...)
		q.Back([]byte("m"))
		stands(t, "R2: All and Take, marked, and one put back", q, append([]string{"m"}, left...)...)
	}
}

// R2: what All told may be written over without any later answer changing, and no later call changes it.
func TestAllIsNewMemory(t *testing.T) {
	for _, items := range lists() {
		q := filled(t, items)
		spoiled, kept := q.All(), q.All()
		spoilList(spoiled)
		stands(t, "R2: All, written over", q, items...)
		mine := append(kept, []byte("mine"))
		q.Put([]byte("c"), 5)
		q.Back([]byte("m"), []byte("n"))
		q.Take()
		q.Take()
		q.Put([]byte("x"), 5)
		spoilList(spoiled)
		if got := stringsOf(mine); !slices.Equal(got, append(slices.Clone(items), "mine")) {
			t.Errorf("R2: All, told before: %q, want %q", got, items)
		}
	}
}

// R2: what Take told may be written over without any later answer changing, and no later call changes it.
func TestTakeIsNewMemory(t *testing.T) {
	for _, items := range lists() {
		q := filled(t, items)
		spoiled, kept := q.Take(), q.Take()
		first := items[:min(5, len(items))]
		second := items[len(first):min(len(first)+5, len(items))]
		left := items[len(first)+len(second):]
		spoilList(spoiled)
		stands(t, "R2: Take, written over", q, left...)
		mine := append(kept, []byte("mine"))
		q.Back(bytesOf(first)...)
		for range 8 {
			q.Put([]byte("c"), 5)
		}
		q.Back(bytesOf(second)...)
		spoilList(spoiled)
		if got := stringsOf(mine); !slices.Equal(got, append(slices.Clone(second), "mine")) {
			t.Errorf("R2: Take, told before: %q, want %q", got, second)
		}
		if got, want := stringsOf(q.All())[:len(second)+len(first)], slices.Concat(second, first); !slices.Equal(got, want) {
			t.Errorf("R2: put back: %q, want %q", got, want)
		}
	}
}

// R2: a queue is handed what it told itself, which is written over then.
func TestItsOwnAnswersPutBack(t *testing.T) {
	for _, items := range lists() {
		q := filled(t, items)
		taken := q.Take()
		q.Back(taken...)
		spoilList(taken)
		stands(t, "R2: its own Take put back", q, items...)
		all := q.All()
		q.Back(all...)
		spoilList(all)
		stands(t, "R2: its own All put back", q, slices.Concat(items, items)...)
	}
}

// R2: what one queue told and another one was given is no bridge between them.
func TestNoBridgeBetweenQueues(t *testing.T) {
	q, other := made(t, 4, 2, 10), made(t, 4, 2, 10)
	puts(t, q, 5, "a", "b", "c")
	list := q.All()
	other.Back(list...)
	other.Put(list[0], 5)
	spoilList(list)
	spoilList(q.Take())
	stands(t, "R2: the one", q, "c")
	stands(t, "R2: the other", other, "a", "b", "c", "a")
	spoilList(other.Take())
	stands(t, "R2: the one", q, "c")
	stands(t, "R2: the other", other, "c", "a")
}
