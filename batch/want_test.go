package batch_test

import (
	"fmt"
	"math"
	"math/big"
	"slices"
	"testing"

	"broadsheet/api"
	"broadsheet/batch"
)

const least, greatest = math.MinInt, math.MaxInt

// made tells a new queue.
func made(t *testing.T, room, size, wait int) *batch.Queue {
	t.Helper()
	q, why := batch.New(room, size, wait)
	if q == nil || why != api.OK {
		t.Fatalf("P16.1: New(%d, %d, %d): %v, %v", room, size, wait, q, why)
	}
	return q
}

// puts puts each item at now, and holds that none is refused.
func puts(t *testing.T, q *batch.Queue, now int, items ...string) {
	t.Helper()
	for _, item := range items {
		if why := q.Put([]byte(item), now); why != api.OK {
			t.Errorf("P16.1: Put(%q, %d): %v", short(item), now, why)
		}
	}
}

// busy holds that a Put is refused.
func busy(t *testing.T, name string, q *batch.Queue, item string, now int) {
	t.Helper()
	if why := q.Put([]byte(item), now); why != api.ErrBusy {
		t.Errorf("%s: Put(%q, %d): %v, want %v", name, short(item), now, why, api.ErrBusy)
	}
}

// takes holds what Take tells against what it must.
func takes(t *testing.T, name string, q *batch.Queue, want ...string) {
	t.Helper()
	if got := stringsOf(q.Take()); !slices.Equal(got, want) {
		t.Errorf("%s: Take: %q, want %q", name, got, want)
	}
}

// stands holds Len, All and Has against the items that must wait. Each item that was ever named and is not among them must not be there.
func stands(t *testing.T, name string, q *batch.Queue, want ...string) {
	t.Helper()
	if got := stringsOf(q.All()); !slices.Equal(got, want) {
		t.Errorf("%s: All: %q, want %q", name, got, want)
	}
	if got := q.Len(); got != len(want) {
		t.Errorf("%s: Len: %d, want %d", name, got, len(want))
	}
	for _, item := range append(words(), want...) {
		if got := q.Has([]byte(item)); got != slices.Contains(want, item) {
			t.Errorf("%s: Has(%q): %v", name, short(item), got)
		}
	}
}

// due holds what Due tells at each of these times against what it must.
func due(t *testing.T, name string, q *batch.Queue, want bool, nows ...int) {
	t.Helper()
	for _, now := range nows {
		if got := q.Due(now); got != want {
			t.Errorf("%s: Due(%d): %v", name, now, got)
		}
	}
}

// words tells items of which one is the beginning, the end or a piece of another one.
func words() []string {
	return []string{"", "a", "b", "c", "aa", "ab", "ba", "abc", "\x00", "a\x00", "\x00a", "\xff", "m", "n", "x"}
}

// anyTime tells times near and far, on both sides of 0.
func anyTime() []int {
	return []int{least, least + 1, least + 999, least + 1001, -1 << 40, -1001, -1000, -11, -10, -1, 0, 1, 9, 10, 11, 999, 1000, 1001, 1 << 40, greatest - 1001, greatest - 1000, greatest - 1, greatest}
}

// named tells n items that are unlike.
func named(n int) []string {
	items := make([]string, 0, n)
	for i := range n {
		items = append(items, fmt.Sprint("item ", i))
	}
	return items
}

// bytesOf tells the items as bytes.
func bytesOf(items []string) [][]byte {
	list := make([][]byte, 0, len(items))
	for _, item := range items {
		list = append(list, []byte(item))
	}
	return list
}

// stringsOf tells the items as texts; an empty list is nil.
func stringsOf(list [][]byte) []string {
	var items []string
	for _, b := range list {
		items = append(items, string(b))
	}
	return items
}

// short tells the beginning of a long text, so that a fault's text can be read.
func short(text string) string {
	if len(text) > 60 {
		return text[:60] + ".."
	}
	return text
}

// Kinds of steps.
const (
	doPut = iota
	doTake
	doBack
	kinds
)

// step is one call that may change a queue.
type step struct {
	kind  int
	items []string // of a Put just one
	now   int
}

func putOf(item string, now int) step { return step{doPut, []string{item}, now} }

func backOf(items ...string) step { return step{doBack, items, 0} }

func takeOf() step { return step{kind: doTake} }

func (s step) String() string {
	switch s.kind {
	case doPut:
		return fmt.Sprintf("Put(%q, %d)", short(s.items[0]), s.now)
	case doTake:
		return "Take()"
	}
	return fmt.Sprintf("Back(%s)", short(fmt.Sprintf("%q", s.items)))
}

// does makes the step's call, and tells its answer, if it has one.
func does(q *batch.Queue, s step) string {
	switch s.kind {
	case doPut:
		return fmt.Sprint(int(q.Put([]byte(s.items[0]), s.now)))
	case doTake:
		return fmt.Sprintf("%q", stringsOf(q.Take()))
	}
	q.Back(bytesOf(s.items)...)
	return ""
}

// account is what the chapter says of a queue, kept in another way: the items last one first, and times as numbers without bounds.
type account struct {
	room, size, wait int
	items            []string
	times            []*big.Int // nil: since ever
}

// since tells a Put's time. The least number is the time of those that wait since ever, so one who is put at it does so too.
func since(now int) *big.Int {
	if now == least {
		return nil
	}
	return big.NewInt(int64(now))
}

// does tells what the step's call must answer, and notes what it does.
func (a *account) does(s step) string {
	switch s.kind {
	case doPut:
		if len(a.items) >= a.room {
			return fmt.Sprint(int(api.ErrBusy))
		}
		a.items = slices.Insert(a.items, 0, s.items[0])
		a.times = slices.Insert(a.times, 0, since(s.now))
		return fmt.Sprint(int(api.OK))
	case doTake:
		var taken []string
		for len(taken) < a.size && len(a.items) > 0 {
			last := len(a.items) - 1
			taken = append(taken, a.items[last])
			a.items, a.times = a.items[:last], a.times[:last]
		}
		return fmt.Sprintf("%q", taken)
	}
	for i := range s.items {
		a.items = append(a.items, s.items[len(s.items)-1-i])
		a.times = append(a.times, nil)
	}
	return ""
}

// due tells whether there is to be a Take.
func (a *account) due(now int) bool {
	n := len(a.times)
	if n == 0 || n >= a.size || a.times[n-1] == nil {
		return n > 0
	}
	end := new(big.Int).Add(a.times[n-1], big.NewInt(int64(a.wait)))
	return end.Cmp(big.NewInt(int64(now))) <= 0
}

// inOrder tells the items, the first one first.
func (a *account) inOrder() []string {
	items := slices.Clone(a.items)
	slices.Reverse(items)
	return items
}

// ends tells times around the one at which the first item has waited long enough, and far ones.
func (a *account) ends() []int {
	nows := anyTime()
	if n := len(a.times); n > 0 && a.times[n-1] != nil {
		end := int(a.times[n-1].Int64()) + a.wait // may wrap round: any number will do
		nows = append(nows, end-a.wait, end-1, end, end+1)
	}
	return nows
}

// tells holds all that a queue tells against the account, and tells the first fault.
func (a *account) tells(q *batch.Queue) string {
	want := a.inOrder()
	if got := stringsOf(q.All()); !slices.Equal(got, want) || q.Len() != len(want) {
		return fmt.Sprintf("All %q, Len %d, want %q", got, q.Len(), want)
	}
	for _, item := range words() {
		if got := q.Has([]byte(item)); got != slices.Contains(want, item) {
			return fmt.Sprintf("Has(%q): %v", item, got)
		}
	}
	for _, now := range a.ends() {
		if got := q.Due(now); got != a.due(now) {
			return fmt.Sprintf("Due(%d): %v", now, got)
		}
	}
	return ""
}

// plays makes the steps' calls on a queue and on the account, and holds all that the queue tells behind each one against it. It tells whether all was well.
func plays(t *testing.T, promise string, q *batch.Queue, a *account, steps ...step) bool {
	t.Helper()
	for i, s := range steps {
		if got, want := does(q, s), a.does(s); got != want {
			t.Errorf("%s: New(%d, %d, %d), %v: the last one answers %s, want %s", promise, a.room, a.size, a.wait, steps[:i+1], got, want)
			return false
		}
		if fault := a.tells(q); fault != "" {
			t.Errorf("%s: New(%d, %d, %d), %v: %s", promise, a.room, a.size, a.wait, steps[:i+1], fault)
			return false
		}
	}
	return true
}

// eachRow calls f with each row of n of these steps. f tells whether to go on.
func eachRow(from []step, n int, f func([]step) bool) bool {
	row := make([]step, n)
	var fill func(at int) bool
	fill = func(at int) bool {
		if at == n {
			return f(row)
		}
		for _, s := range from {
			row[at] = s
			if !fill(at + 1) {
				return false
			}
		}
		return true
	}
	return fill(0)
}
