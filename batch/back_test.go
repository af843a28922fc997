package batch_test

import (
	"fmt"
	"slices"
	"testing"

	"broadsheet/api"
	"broadsheet/batch"
)

// P16.1: items that are put back wait ahead of all others, in their order.
func TestBack(t *testing.T) {
	for n := range 2*api.MaxQueue + 3 {
		for has := range 4 {
			name := fmt.Sprintf("P16.1: Back of %d, ahead of %d", n, has)
			q := made(t, 4, 3, 10)
			others, items := []string{"x", "y", "z"}[:has], named(n)
			puts(t, q, 50, others...)
			q.Back(bytesOf(items)...)
			all := slices.Concat(items, others)
			stands(t, name, q, all...)
			if n > 0 {
				due(t, name, q, true, anyTime()...)
			}
			for len(all) > 0 {
				k := min(3, len(all))
				takes(t, name, q, all[:k]...)
				all = all[k:]
				stands(t, name, q, all...)
			}
			takes(t, name+", nothing is left", q)
		}
	}
}

// P16.1, R4: Back of none changes nothing, nor the time of the one who is first.
func TestBackOfNone(t *testing.T) {
	for _, back := range []func(*batch.Queue){
		func(q *batch.Queue) { q.Back() },
		func(q *batch.Queue) { q.Back(nil...) },
		func(q *batch.Queue) { q.Back([][]byte{}...) },
		func(q *batch.Queue) { q.Back([][]byte{[]byte("a"), []byte("b")}[:0]...) },
	} {
		q := made(t, 4, 3, 10)
		back(q)
		stands(t, "P16.1: Back of none", q)
		due(t, "P16.1: Back of none", q, false, anyTime()...)
		puts(t, q, 50, "m")
		back(q)
		stands(t, "P16.1: Back of none", q, "m")
		due(t, "P16.1: Back of none", q, false, least, 50, 59)
		due(t, "P16.1: Back of none", q, true, 60, greatest)
	}
}

// P16.1: of several that are put back each waits since ever, not the first one alone.
func TestEachThatIsPutBackWaitsSinceEver(t *testing.T) {
	for _, wait := range []int{0, 1, 1000} {
		q := made(t, 4, 2, wait)
		q.Back(bytesOf(named(9))...)
		for left := 9; left > 0; left = q.Len() {
			due(t, fmt.Sprintf("P16.1: %d of those put back are left", left), q, true, anyTime()...)
			if q.Take(); q.Len() >= left {
				t.Fatalf("P16.1: Take of %d: %d are left", left, q.Len())
			}
		}
		due(t, "P16.1: those put back are taken", q, false, anyTime()...)
	}
}

// P16.1: those who are put back later wait ahead of those who were put back before.
func TestBackAgain(t *testing.T) {
	q := made(t, 2, 2, 10)
	puts(t, q, 5, "x")
	q.Back([]byte("c"))
	q.Back([]byte("a"), []byte("b"))
	q.Back([]byte("m"), []byte("m"), []byte(""))
	stands(t, "P16.1: Back again", q, "m", "m", "", "a", "b", "c", "x")
	takes(t, "P16.1: Back again", q, "m", "m")
	q.Back([]byte("n"))
	stands(t, "P16.1: Back between", q, "n", "", "a", "b", "c", "x")
	takes(t, "P16.1: Back between", q, "n", "")
	takes(t, "P16.1: Back between", q, "a", "b")
	due(t, "P16.1: two are left", q, true, least)
	takes(t, "P16.1: Back between", q, "c", "x")
	takes(t, "P16.1: Back between", q)
}

// P16.1: what Take told is put back: all is as it was, but for the first ones' time.
func TestBackOfWhatWasTaken(t *testing.T) {
	for size := 1; size <= api.MaxBatch; size++ {
		for n := range api.MaxQueue + 1 {
			name := fmt.Sprintf("P16.1: size %d, %d wait", size, n)
			q := made(t, api.MaxQueue, size, 10)
			items := named(n)
			puts(t, q, 50, items...)
			for range 3 {
				q.Back(q.Take()...)
				stands(t, name, q, items...)
			}
			due(t, name, q, n > 0, least, 0, 59, greatest)
			taken := q.Take()
			due(t, name+", taken again", q, n >= 2*size, least, 0, 59)
			if n < api.MaxQueue {
				puts(t, q, 40, "x")
				items = append(items, "x")
			}
			q.Back(taken...)
			stands(t, name+", one more", q, items...)
		}
	}
}

// P16.1: what one queue told may be put back into another one.
func TestBackIntoAnotherQueue(t *testing.T) {
	q, other := made(t, 4, 2, 10), made(t, 1, 8, 1000)
	puts(t, q, 50, "a", "b", "c")
	puts(t, other, 50, "x")
	other.Back(q.Take()...)
	other.Back(q.All()...)
	stands(t, "P16.1: the one", q, "c")
	stands(t, "P16.1: the other", other, "c", "a", "b", "x")
	due(t, "P16.1: the other", other, true, least)
	takes(t, "P16.1: the other", other, "c", "a", "b", "x")
}

// P16.1: Back asks no room: also a full queue takes all. Put does, until fewer than room items wait.
func TestBackBeyondTheRoom(t *testing.T) {
	for _, room := range []int{1, 2, 3, 5, api.MaxQueue} {
		for _, n := range []int{1, 2, api.MaxQueue - 1, api.MaxQueue, api.MaxQueue + 1, 100} {
			name := fmt.Sprintf("P16.1: room %d, Back of %d", room, n)
			q := made(t, room, 3, 10)
			all := slices.Repeat([]string{"x"}, room)
			puts(t, q, 50, all...)
			q.Back(bytesOf(named(n))...)
			all = slices.Concat(named(n), all)
			stands(t, name, q, all...)
			for len(all) >= room {
				for _, now := range []int{least, 0, 50, greatest} {
					busy(t, name, q, "y", now)
				}
				stands(t, name+", refused", q, all...)
				k := min(3, len(all))
				takes(t, name, q, all[:k]...)
				all = all[k:]
			}
			for len(all) < room {
				puts(t, q, 50, "z")
				all = append(all, "z")
			}
			busy(t, name+", full again", q, "y", 50)
			stands(t, name+", full again", q, all...)
		}
	}
}

// P16.1: into an empty queue, just to the room, one below and one above.
func TestBackUpToTheRoom(t *testing.T) {
	for room := 1; room <= api.MaxQueue; room++ {
		for n := room - 1; n <= room+1; n++ {
			q := made(t, room, 3, 10)
			q.Back(bytesOf(named(n))...)
			if n < room {
				puts(t, q, 50, "x")
			}
			busy(t, fmt.Sprintf("P16.1: room %d, Back of %d", room, n), q, "y", 50)
		}
	}
}

// P16.1, R1: any number of items: a great many end soon, and come in order.
func TestBackOfAGreatMany(t *testing.T) {
	const n = 200000
	q := made(t, 1, api.MaxBatch, 10)
	items := named(n)
	q.Back(bytesOf(items)...)
	busy(t, "P16.1: a great many", q, "x", 5)
	if q.Len() != n || !slices.Equal(stringsOf(q.All()), items) || !q.Has([]byte(items[n-1])) || q.Has([]byte("x")) {
		t.Fatalf("P16.1: a great many: Len %d", q.Len())
	}
	for at := 0; at < n; at += api.MaxBatch {
		if got := stringsOf(q.Take()); !slices.Equal(got, items[at:at+api.MaxBatch]) {
			t.Fatalf("P16.1: a great many, from %d on: %q", at, got)
		}
	}
	stands(t, "P16.1: a great many, taken", q)
}
