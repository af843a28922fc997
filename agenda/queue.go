package agenda

// entry is one thing that is to be done. Its number tells it from all others of its time: a heap alone does not keep the order in which they came.
type entry struct {
	at, number, what int
}

// queue is what container/heap asks for: the entry that is to be done first lies in its first place.
type queue []entry

func (q queue) Len() int { return len(q) }

// Less holds times against each other, not their difference against 0: that would wrap round between the least and the greatest number.
func (q queue) Less(i, j int) bool {
	x, y := q[i], q[j]
	if x.at != y.at {
		return x.at < y.at
	}
	return x.number < y.number
}

func (q queue) Swap(i, j int) { q[i], q[j] = q[j], q[i] }

// Push is called by heap.Push alone, which Add hands an entry.
func (q *queue) Push(x any) { *q = append(*q, x.(entry)) }

// Pop is called by heap.Pop alone, which has laid the first entry into the last place.
func (q *queue) Pop() any {
	last := len(*q) - 1
	e := (*q)[last]
	*q = (*q)[:last]
	return e
}
