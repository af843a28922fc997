package batch

import "math"

// ever is since when those wait that were put back. No now is too early for them: at the least number, too, all their time has gone by.
const ever = math.MinInt

// waiting is an item that waits since a time. It is a string, so that nobody who has the bytes can change it.
type waiting struct {
	item  string
	since int
}

// old tells whether it has waited for so long by now. What went by is counted without a sign: between far times it is too great for an int, as the sum of a late time and the wait is.
func (w waiting) old(wait, now int) bool {
	if w.since == ever {
		return true
	}
	return now >= w.since && uint(now)-uint(w.since) >= uint(wait)
}

// texts tells the items of l in new memory.
func texts(l []waiting) [][]byte {
	items := make([][]byte, 0, len(l))
	for _, w := range l {
		items = append(items, []byte(w.item))
	}
	return items
}
