package batch_test

import (
	"fmt"
	"testing"

	"broadsheet/api"
	"broadsheet/batch"
)

// The chapter's run.
func TestRun(t *testing.T) {
	q := made(t, 4, 2, 10)
	puts(t, q, 5, "a")
	due(t, "the run", q, false, 14)
	due(t, "the run", q, true, 15)
}

// The chapter's examples.
func TestExamples(t *testing.T) {
	q := made(t, 1, 2, 10)
	takes(t, "example 1", q)
	puts(t, q, 5, "a")
	busy(t, "example 2", q, "b", 5)
}

// edge is a number that New is given, and whether it may be.
type edge struct {
	n  int
	ok bool
}

// edges tells the numbers at both bounds, below and above them, between them and far off.
func edges(low, high int) []edge {
	var l []edge
	for _, n := range []int{least, least + 1, -1 << 32, -high, -1, 0, 1, 2, low - 1, low, low + 1, high - 1, high, high + 1, 2 * high, 1 << 31, 1 << 32, 1<<32 + low, greatest - 1, greatest} {
		l = append(l, edge{n, low <= n && n <= high})
	}
	return l
}

// P16.1: room is 1 to MaxQueue, size 1 to MaxBatch, wait 0 to 1000: each alone and all together.
func TestNew(t *testing.T) {
	for _, room := range edges(1, api.MaxQueue) {
		for _, size := range edges(1, api.MaxBatch) {
			for _, wait := range edges(0, 1000) {
				q, why := batch.New(room.n, size.n, wait.n)
				want, ok := api.ErrArg, room.ok && size.ok && wait.ok
				if ok {
					want = api.OK
				}
				if (q != nil) != ok || why != want {
					t.Errorf("P16.1: New(%d, %d, %d): %v, %v", room.n, size.n, wait.n, q, why)
				}
			}
		}
	}
}

// P16.1: nothing waits in a new queue, whatever its room, size and wait; and what they were given as is what they are.
func TestEachNewQueue(t *testing.T) {
	for room := 1; room <= api.MaxQueue; room++ {
		for size := 1; size <= api.MaxBatch; size++ {
			for _, wait := range []int{0, 1, 2, 10, 999, 1000} {
				name := fmt.Sprintf("P16.1: New(%d, %d, %d)", room, size, wait)
				q := made(t, room, size, wait)
				stands(t, name, q)
				due(t, name, q, false, anyTime()...)
				goes(t, name, q, room, size, wait)
			}
		}
	}
}

// goes holds an empty queue's room, size and wait against what they must be.
func goes(t *testing.T, name string, q *batch.Queue, room, size, wait int) {
	t.Helper()
	items := named(room)
	for i, item := range items {
		puts(t, q, 50+i, item)
		due(t, fmt.Sprintf("%s, %d of it", name, i+1), q, i+1 >= size, least, 0, 50+wait-1)
		due(t, fmt.Sprintf("%s, %d of it", name, i+1), q, true, 50+wait, 50+wait+1)
	}
	busy(t, name, q, "one more", 50)
	for len(items) > 0 {
		n := min(size, len(items))
		takes(t, name, q, items[:n]...)
		items = items[n:]
		stands(t, name, q, items...)
	}
	takes(t, name, q)
}

// P16.1: Put up to the room, then once more and again: refused, and nothing is changed.
func TestPutIntoNoRoom(t *testing.T) {
	for room := 1; room <= api.MaxQueue; room++ {
		name := fmt.Sprintf("P16.1: room %d", room)
		q := made(t, room, api.MaxBatch, 10)
		items := named(room)
		for i, item := range items {
			puts(t, q, 5+i, item)
			stands(t, name, q, items[:i+1]...)
		}
		for _, now := range append(anyTime(), 5, 6) {
			for _, item := range []string{"", "x", items[0], items[room-1]} {
				busy(t, name, q, item, now)
			}
			stands(t, name, q, items...)
			due(t, name, q, room >= api.MaxBatch, least, 0, 14)
			due(t, name, q, true, 15, 16, greatest)
		}
		takes(t, name, q, items[:min(room, api.MaxBatch)]...)
		items = items[min(room, api.MaxBatch):]
		for len(items) < room {
			puts(t, q, 100, "again")
			items = append(items, "again")
			stands(t, name+", behind a Take", q, items...)
		}
		busy(t, name+", behind a Take", q, "again", 100)
		stands(t, name+", behind a Take", q, items...)
	}
}

// P16.1, R3: a refused Put leaves no time behind: the one who was refused is not the one that Due goes by later.
func TestARefusedPutLeavesNoTime(t *testing.T) {
	for _, early := range []int{least, -1000, 0, 49} {
		q := made(t, 2, 2, 10)
		puts(t, q, 50, "a", "b")
		busy(t, "R3", q, "c", early)
		takes(t, "R3", q, "a", "b")
		due(t, "R3: a refused Put", q, false, anyTime()...)
		puts(t, q, 60, "d")
		due(t, "R3: a refused Put", q, false, least, 0, 50, 60, 69)
		due(t, "R3: a refused Put", q, true, 70, greatest)
	}
}

// P16.1: each item waits behind all, also one that waits already.
func TestPutOfTheSame(t *testing.T) {
	q := made(t, 6, 2, 10)
	puts(t, q, 5, "a", "b", "a", "a", "b", "c")
	stands(t, "P16.1: the same", q, "a", "b", "a", "a", "b", "c")
	busy(t, "P16.1: the same", q, "a", 5)
	takes(t, "P16.1: the same", q, "a", "b")
	stands(t, "P16.1: the same, once taken", q, "a", "a", "b", "c")
	takes(t, "P16.1: the same", q, "a", "a")
	stands(t, "P16.1: the same, taken", q, "b", "c")
}

// P16.1, R4: the empty item is one as any other is, and nil is the empty one.
func TestTheEmptyItem(t *testing.T) {
	for _, none := range [][]byte{nil, {}, []byte("abc")[:0]} {
		for _, asked := range [][]byte{nil, {}, []byte("xyz")[1:1]} {
			q := made(t, 2, 3, 10)
			if q.Has(asked) {
				t.Error("P16.1: Has of the empty item: nothing waits")
			}
			if why := q.Put(none, 5); why != api.OK || !q.Has(asked) {
				t.Errorf("P16.1: Put of the empty item: %v, Has %v", why, q.Has(asked))
			}
			stands(t, "P16.1: the empty item", q, "")
			due(t, "P16.1: the empty item", q, false, 14)
			due(t, "P16.1: the empty item", q, true, 15)
			q.Back(none)
			stands(t, "P16.1: the empty item, twice", q, "", "")
			if why := q.Put(none, 5); why != api.ErrBusy {
				t.Errorf("P16.1: Put of the empty item into no room: %v", why)
			}
			takes(t, "P16.1: the empty item", q, "", "")
			if q.Has(asked) || q.Len() != 0 {
				t.Error("P16.1: the empty item, taken")
			}
		}
	}
}

// P16.1: items of any length, and of any bytes.
func TestItemsOfAnyLength(t *testing.T) {
	every := make([]byte, 256)
	for i := range every {
		every[i] = byte(i)
	}
	for _, n := range []int{0, 1, 2, 31, 32, 33, 255, 256, 257, 1000, api.MaxRecord, api.MaxRecord + 1, 1 << 20} {
		long := ""
		for len(long) < n {
			long += string(every) + long
		}
		q := made(t, 3, 3, 10)
		puts(t, q, 5, long[:n], string(every))
		q.Back([]byte(long[:n] + "!"))
		if all := stringsOf(q.All()); len(all) != 3 || all[0] != long[:n]+"!" || all[1] != long[:n] || all[2] != string(every) {
			t.Errorf("P16.1: All of items of %d bytes", n)
		}
		if !q.Has([]byte(long[:n])) || !q.Has([]byte(long[:n]+"!")) || q.Has([]byte(long[:n]+"?")) || q.Has(every[1:]) {
			t.Errorf("P16.1: Has of items of %d bytes", n)
		}
		if got := stringsOf(q.Take()); len(got) != 3 || got[0] != long[:n]+"!" || got[1] != long[:n] || got[2] != string(every) {
			t.Errorf("P16.1: Take of items of %d bytes", n)
		}
	}
}

// P16.1: Has of what waits, was taken, was put back, was refused: by the whole item, not by a piece of it.
func TestHas(t *testing.T) {
	q := made(t, 3, 2, 10)
	puts(t, q, 5, "abc", "m", "a\x00")
	busy(t, "P16.1: Has", q, "x", 5)
	stands(t, "P16.1: Has, refused", q, "abc", "m", "a\x00")
	takes(t, "P16.1: Has", q, "abc", "m")
	stands(t, "P16.1: Has, taken", q, "a\x00")
	q.Back([]byte("m"))
	stands(t, "P16.1: Has, put back", q, "m", "a\x00")
	takes(t, "P16.1: Has", q, "m", "a\x00")
	stands(t, "P16.1: Has, all taken", q)
}

// P16.1: Take tells the first size items, or all, if they are fewer, until nothing is left, and once more.
func TestTake(t *testing.T) {
	for size := 1; size <= api.MaxBatch; size++ {
		for n := range api.MaxQueue + 1 {
			name := fmt.Sprintf("P16.1: size %d, %d wait", size, n)
			q := made(t, api.MaxQueue, size, 10)
			items := named(n)
			puts(t, q, 5, items...)
			for len(items) > size {
				takes(t, name, q, items[:size]...)
				items = items[size:]
				stands(t, name, q, items...)
			}
			takes(t, name+", the last", q, items...)
			for range 3 {
				takes(t, name+", nothing is left", q)
				stands(t, name+", nothing is left", q)
				due(t, name+", nothing is left", q, false, anyTime()...)
			}
			puts(t, q, 5, "x")
			stands(t, name+", gone on", q, "x")
		}
	}
}

// P16.1: Take does not ask whether it is Due.
func TestTakeAheadOfDue(t *testing.T) {
	q := made(t, 4, 3, 10)
	puts(t, q, 5, "a", "b")
	due(t, "P16.1: too early", q, false, 14)
	takes(t, "P16.1: too early", q, "a", "b")
	stands(t, "P16.1: too early", q)
}

// P16.1, R4: two queues side by side see nothing of each other, and asking changes nothing.
func TestQueuesAreByThemselves(t *testing.T) {
	eachRow(shortSteps(), 3, func(row []step) bool {
		one, other, quiet := made(t, 3, 2, 10), made(t, 3, 2, 10), made(t, 3, 2, 10)
		puts(t, other, 5, "m", "n")
		want := told(other)
		for i, s := range row {
			told(one)
			if got, want := does(one, s), does(quiet, s); got != want {
				t.Errorf("R4: %v: %s, asked often, else %s", row[:i+1], got, want)
				return false
			}
			if got := told(other); got != want {
				t.Errorf("R4: %v on another queue: %s, want %s", row[:i+1], got, want)
				return false
			}
		}
		if got, want := told(one), told(quiet); got != want {
			t.Errorf("R4: %v: %s, asked often, else %s", row, got, want)
			return false
		}
		return true
	})
}

// told tells all that a queue tells.
func told(q *batch.Queue) string {
	text := fmt.Sprintf("%d %q", q.Len(), stringsOf(q.All()))
	for _, item := range words() {
		text += fmt.Sprint(" ", q.Has([]byte(item)))
	}
	for _, now := range append(anyTime(), 5, 14, 15, 16, 17) {
		text += fmt.Sprint(" ", q.Due(now))
	}
	return text
}
