package batch_test

import (
	"fmt"
	"testing"

	"broadsheet/api"
)

// P16.1: nothing waits, so nothing is due, at any time: from the beginning on, behind a Take of all, behind a Back of none.
func TestNothingIsDue(t *testing.T) {
	for _, wait := range []int{0, 1, 1000} {
		for size := 1; size <= 3; size++ {
			q := made(t, 4, size, wait)
			due(t, "P16.1: new", q, false, anyTime()...)
			q.Back()
			due(t, "P16.1: Back of none", q, false, anyTime()...)
			q.Back([]byte("a"))
			q.Take()
			due(t, "P16.1: put back and taken", q, false, anyTime()...)
			puts(t, q, least, "a")
			q.Take()
			due(t, "P16.1: all taken", q, false, anyTime()...)
		}
	}
}

// P16.1: fewer than size wait: at the first one's time and wait, not one below.
func TestDueByTime(t *testing.T) {
	for _, wait := range []int{0, 1, 2, 10, 999, 1000} {
		for _, at := range []int{least + 1, least + 2, least + 1000, least + 1001, -1 << 40, -1000, -999, -10, -1, 0, 1, 5, 1<<40 - 1, greatest - 2001, greatest - 1001} {
			name := fmt.Sprintf("P16.1: since %d, wait %d", at, wait)
			q := made(t, 4, 4, wait)
			puts(t, q, at, "a")
			end := at + wait
			due(t, name, q, false, least, at-1, end-1)
			if wait > 0 {
				due(t, name, q, false, at)
			}
			due(t, name, q, true, end, end+1, greatest-1, greatest)
			if at < 0 {
				due(t, name, q, true, greatest/2)
			}
			if at > 0 {
				due(t, name, q, false, least/2, -1, 0)
			}
		}
	}
}

// P16.1: a time and a wait that are more than the greatest number are never reached.
func TestDueNever(t *testing.T) {
	for _, wait := range []int{0, 1, 2, 10, 1000} {
		for below := range 1003 {
			at := greatest - below
			name := fmt.Sprintf("P16.1: since the greatest number less %d, wait %d", below, wait)
			q := made(t, 4, 4, wait)
			puts(t, q, at, "a")
			due(t, name, q, wait <= below, greatest)
			due(t, name, q, wait < below, greatest-1)
			due(t, name, q, false, least, least+wait, -1, 0, at-1)
		}
	}
}

// P16.1: the least number is the time of those who wait since ever, whoever they are.
func TestDueSinceEver(t *testing.T) {
	for _, wait := range []int{0, 1, 10, 1000} {
		put, back := made(t, 4, 4, wait), made(t, 4, 4, wait)
		puts(t, put, least, "a")
		back.Back([]byte("a"))
		for _, now := range anyTime() {
			due(t, fmt.Sprintf("P16.1: put at the least number, wait %d", wait), put, true, now)
			due(t, fmt.Sprintf("P16.1: put back, wait %d", wait), back, true, now)
		}
	}
}

// P16.1: as soon as size items wait, whatever the time, and however late they came.
func TestDueByNumber(t *testing.T) {
	for size := 1; size <= api.MaxBatch; size++ {
		for _, at := range []int{least + 1, -5, 0, 7, 1 << 40, greatest} {
			q := made(t, api.MaxQueue, size, 1000)
			for i := range api.MaxQueue {
				due(t, fmt.Sprintf("P16.1: size %d, %d wait", size, i), q, i >= size, least, at)
				puts(t, q, at, "a")
			}
			for left := api.MaxQueue; left > 0; left = q.Len() {
				due(t, fmt.Sprintf("P16.1: size %d, %d are left", size, left), q, left >= size, least, at)
				if q.Take(); q.Len() >= left {
					t.Fatalf("P16.1: Take of %d: %d are left", left, q.Len())
				}
			}
			due(t, fmt.Sprintf("P16.1: size %d, none is left", size), q, false, anyTime()...)
		}
	}
}

// P16.1: a room below size is never enough: it goes by time alone.
func TestDueWithRoomBelowSize(t *testing.T) {
	for size := 2; size <= api.MaxBatch; size++ {
		for room := 1; room < size; room++ {
			q := made(t, room, size, 10)
			puts(t, q, 5, named(room)...)
			busy(t, "P16.1: room below size", q, "x", 5)
			due(t, "P16.1: room below size", q, false, least, 5, 14)
			due(t, "P16.1: room below size", q, true, 15)
			takes(t, "P16.1: room below size", q, named(room)...)
		}
	}
}

// P16.1: the first one's time is what it goes by, not the earliest, the latest or the last one's.
func TestDueByTheFirst(t *testing.T) {
	for _, times := range [][]int{{5, 6, 7}, {7, 6, 5}, {6, 5, 7}, {6, 7, 5}, {0, -100, 100}, {0, 100, -100}, {-3, -2, -4}, {50, least, greatest}, {50, greatest, least}} {
		q := made(t, 4, 4, 10)
		for i, at := range times {
			puts(t, q, at, fmt.Sprint(i))
			due(t, fmt.Sprintf("P16.1: times %v", times[:i+1]), q, false, least, times[0], times[0]+9)
			due(t, fmt.Sprintf("P16.1: times %v", times[:i+1]), q, true, times[0]+10, greatest)
		}
	}
}

// P16.1: once the first ones were taken, it goes by the next one's time.
func TestDueByTheNext(t *testing.T) {
	for _, times := range [][]int{{5, 6, 30}, {60, 30, 5}, {30, 5, -60}, {0, 0, 0}, {least, 7, -10}, {7, least, 1 << 40}, {greatest, greatest, 0}} {
		name := fmt.Sprintf("P16.1: times %v", times)
		q := made(t, 9, 2, 10)
		for i, at := range times {
			puts(t, q, at, fmt.Sprint(i))
		}
		takes(t, name, q, "0", "1")
		due(t, name, q, false, least, times[2], times[2]+9)
		due(t, name, q, true, times[2]+10, greatest)
		puts(t, q, 20, "3")
		due(t, name+", two again", q, true, least, greatest)
		takes(t, name+", two again", q, "2", "3")
		puts(t, q, 8, "4")
		due(t, name+", one that came late", q, false, least, 17)
		due(t, name+", one that came late", q, true, 18, greatest)
	}
}

// P16.1: behind those who were put back it goes by the time of the one who was put.
func TestDueBehindThosePutBack(t *testing.T) {
	for size := 2; size <= 4; size++ {
		q := made(t, 9, size, 10)
		puts(t, q, 50, "a")
		q.Back(bytesOf(named(size))...)
		due(t, "P16.1: put back", q, true, anyTime()...)
		takes(t, "P16.1: put back", q, named(size)...)
		due(t, "P16.1: put, behind those put back", q, false, least, 0, 50, 59)
		due(t, "P16.1: put, behind those put back", q, true, 60, greatest)
	}
}
