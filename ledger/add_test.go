package ledger_test

import (
	"fmt"
	"slices"
	"strings"
	"testing"

	"broadsheet/api"
	"broadsheet/journal"
	"broadsheet/ledger"
)

// P15.1: the run of the chapter.
func TestRun(t *testing.T) {
	l, d := begun(t, "P15.1: the run")
	adds(t, "P15.1: the run", l, []string{"a", "b", "a"}, 0, 1, 0)
	stands(t, "P15.1: the run", l, []string{"a", "b"})
	tells(t, "P15.1: the run", d, written([]string{"a", "b"}), 18, false)
}

// P15.1: example 2: Add of nothing is nothing, on a ledger with leaves and on one without.
func TestAddOfNothing(t *testing.T) {
	l, d := begun(t, "P15.1: example 2")
	for _, items := range [][]string{nil, {"a"}, {"a", "b", "c"}} {
		if len(items) > 0 {
			adds(t, "P15.1", l, items, []int{0, 1, 2}[:len(items)]...)
		}
		was := told(d)
		d.Arm(1)
		for range 3 {
			adds(t, "P15.1: nothing", l, nil)
			if n, why := l.Add([][]byte{}...); len(n) > 0 || why != api.OK {
				t.Errorf("P15.1: an empty list: %v, %v", n, why)
			}
		}
		d.Arm(0)
		stands(t, "P15.1: nothing", l, items)
		if told(d) != was {
			t.Errorf("P15.1: nothing: the disk is %s, want %s", told(d), was)
		}
	}
}

// P15.1: one item after the other: its number, one record each, synced.
func TestAddOfOne(t *testing.T) {
	l, d := begun(t, "P15.1: one")
	items := named(0, most)
	size := 0
	for i, item := range items {
		adds(t, "P15.1: one", l, []string{item}, i)
		size += len(written([]string{item}))
		if d.Size() != size || d.Synced() != size || l.Size() != i+1 {
			t.Fatalf("P15.1: one: leaf %d: Size %d, Synced %d, want %d", i, d.Size(), d.Synced(), size)
		}
	}
	tells(t, "P15.1: one", d, written(alone(items)...), size, false)
	stands(t, "P15.1: one", l, items)
	stands(t, "P15.1: one, anew", opened(t, "P15.1: anew", d, roomy(t), items, 0), items)
}

// upTo tells the numbers from from on, n of them.
func upTo(from, n int) []int {
	numbers := make([]int, n)
	for i := range numbers {
		numbers[i] = from + i
	}
	return numbers
}

// P15.1: all new items of one Add are one record, whatever their number, up to MaxLeaves.
func TestAddOfMany(t *testing.T) {
	for _, n := range []int{2, 3, 8, 9, 100, 255, 256} {
		l, d := begun(t, "P15.1: many")
		items := named(0, n)
		adds(t, "P15.1: many", l, items, upTo(0, n)...)
		text := written(items)
		tells(t, fmt.Sprintf("P15.1: %d items", n), d, text, len(text), false)
		stands(t, "P15.1: many", l, items)
		stands(t, "P15.1: many, anew", opened(t, "P15.1: anew", d, roomy(t), items, 0), items)
	}
}

// P15.1: from each number of leaves: so many that MaxLeaves are reached, and one more: ErrLong, and nothing.
func TestAddOfTooMany(t *testing.T) {
	for _, n := range []int{0, 1, 2, 127, 128, 200, 254, 255, 256} {
		l, d := begun(t, "P15.1: too many")
		items := named(0, most)
		adds(t, "P15.1", l, items[:n], upTo(0, n)...)
		was := told(d)
		for _, over := range []int{1, 2, 10, 256, 257, 1000} {
			addsNone(t, fmt.Sprintf("P15.1: %d leaves, %d too many", n, over), l, named(n, most-n+over), api.ErrLong)
		}
		mixed := slices.Concat(items[:n], named(n, most-n+1), items[:n])
		addsNone(t, "P15.1: new ones among old ones", l, mixed, api.ErrLong)
		addsNone(t, "P15.1: the new one that is too many twice", l, append(mixed, named(256, 1)...), api.ErrLong)
		if told(d) != was {
			t.Fatalf("P15.1: %d leaves, too many: the disk is changed", n)
		}
		stands(t, "P15.1: too many", l, items[:n])
		lacks(t, "P15.1: too many", l, named(n, most-n+5)...)
		adds(t, "P15.1: as many as may be", l, items[n:], upTo(n, most-n)...)
		stands(t, "P15.1: as many as may be", l, items)
		addsNone(t, "P15.1: one more", l, []string{"one more"}, api.ErrLong)
		stands(t, "P15.1: as many as may be", opened(t, "P15.1: anew", d, roomy(t), items, 0), items)
	}
}

// P15.1: many more items than MaxLeaves are handed in, of which no more are new: they are taken.
func TestAddOfManyThatAreFew(t *testing.T) {
	l, d := begun(t, "P15.1: few")
	few := named(0, most)
	var items []string
	var numbers []int
	for i := range 5000 {
		items = append(items, few[i*7%most])
		numbers = append(numbers, i%most)
	}
	adds(t, "P15.1: few", l, items, numbers...)
	text := written(items[:most])
	tells(t, "P15.1: few", d, text, len(text), false)
	adds(t, "P15.1: few, again", l, items, numbers...)
	tells(t, "P15.1: few, again", d, text, len(text), false)
}

// P15.1, R4: the empty item is one as others are; nil and empty are the same.
func TestAddOfTheEmptyItem(t *testing.T) {
	for _, empty := range [][]byte{nil, {}, make([]byte, 0, 10), []byte("abc")[:0]} {
		l, d := begun(t, "P15.1: the empty item")
		lacks(t, "P15.1: the empty item", l, "")
		n, why := l.Add([]byte("a"), empty, nil, []byte{}, []byte("b"))
		if why != api.OK || !slices.Equal(n, []int{0, 1, 1, 1, 2}) {
			t.Errorf("P15.1: the empty item: %v, %v", n, why)
		}
		tells(t, "P15.1: the empty item", d, written([]string{"a", "", "b"}), 8+4+3+2+3, false)
		stands(t, "P15.1: the empty item", l, []string{"a", "", "b"})
		for _, again := range [][]byte{nil, {}, empty} {
			at, ok := l.Find(again)
			n, why := l.Add(again)
			if at != 1 || !ok || why != api.OK || !slices.Equal(n, []int{1}) {
				t.Errorf("P15.1: the empty item again: %d, %v, %v, %v", at, ok, n, why)
			}
		}
	}
}

// P15.1: items that are alike but for a byte, or of which one is another one's beginning, are unlike.
func TestAddOfNearlyTheSame(t *testing.T) {
	items := []string{"", "\x00", "\x00\x00", "a", "a\x00", "\x00a", "A", "aa", "\xff", "\xff\xfe", "\xef\xbf\xbd", "\xc3\x28", "é", "e\u0301", strings.Repeat("a", 300), strings.Repeat("a", 301), strings.Repeat("a", 299) + "b"}
	l, d := begun(t, "P15.1: nearly the same")
	adds(t, "P15.1: nearly the same", l, items, upTo(0, len(items))...)
	for i, item := range items {
		adds(t, "P15.1: nearly the same, again", l, []string{item}, i)
	}
	stands(t, "P15.1: nearly the same", opened(t, "P15.1: anew", d, roomy(t), items, 0), items)
}

// sequences calls f with each row of up to n of these.
func sequences(from []string, n int, f func([]string)) {
	var fill func(row []string)
	fill = func(row []string) {
		f(row)
		if len(row) < n {
			for _, item := range from {
				fill(append(slices.Clone(row), item))
			}
		}
	}
	fill(nil)
}

// mustAdd tells the numbers of the items on a ledger with these leaves, and which ones are new, by search alone.
func mustAdd(leaves, items []string) (numbers []int, fresh []string) {
	for _, item := range items {
		all := slices.Concat(leaves, fresh)
		at := slices.Index(all, item)
		if at < 0 {
			at = len(all)
			fresh = append(fresh, item)
		}
		numbers = append(numbers, at)
	}
	return numbers, fresh
}

// P15.1: new ones and old ones mixed, each of them any number of times, in every order: numbers, leaves, and what is written.
func TestAddInEveryOrder(t *testing.T) {
	begin := []string{"a", "", "c"}
	sequences([]string{"a", "", "c", "x", "y", "z"}, 4, func(items []string) {
		d := kept(t, written(begin))
		l, why := ledger.Open(d, roomy(t), seedOf(1))
		answers(t, "P15.1: Open", why, api.OK)
		numbers, fresh := mustAdd(begin, items)
		text := written(begin)
		if len(fresh) > 0 {
			text += written(fresh)
		}
		for range 2 {
			adds(t, "P15.1: every order", l, items, numbers...)
			tells(t, fmt.Sprintf("P15.1: Add(%q)", items), d, text, len(text), false)
			stands(t, "P15.1: every order", l, slices.Concat(begin, fresh))
		}
	})
}

// P15.1: items that are there write nothing and make no call of the disk: also without power, and on a full disk.
func TestAddOfWhatIsThere(t *testing.T) {
	d := kept(t, written([]string{"a", "b"}, []string{"c"}))
	d.Grow(d.Size())
	l := opened(t, "P15.1: there", d, roomy(t), []string{"a", "b", "c"}, 0)
	d.Arm(1)
	was := told(d)
	for range 3 {
		adds(t, "P15.1: there", l, []string{"a"}, 0)
		adds(t, "P15.1: there", l, []string{"c", "a", "b", "b", "c"}, 2, 0, 1, 1, 2)
	}
	if told(d) != was {
		t.Errorf("P15.1: there: the disk is %s, want %s", told(d), was)
	}
	armedSo(t, "P15.1: there", d, 1)
	adds(t, "P15.1: there, without power", l, []string{"c", "b"}, 2, 1)
	adds(t, "P15.1: nothing, without power", l, nil)
}

// P15.1: what was there and not synced is not synced by an Add of what is there.
func TestAddOfWhatIsThereSyncsNothing(t *testing.T) {
	text := written([]string{"a"})
	d := holding(t, text, 0)
	l := opened(t, "P15.1: not synced", d, roomy(t), []string{"a"}, 0)
	adds(t, "P15.1: not synced", l, []string{"a"}, 0)
	adds(t, "P15.1: not synced", l, nil)
	tells(t, "P15.1: not synced", d, text, 0, false)
	adds(t, "P15.1: not synced", l, []string{"b"}, 1)
	tells(t, "P15.1: synced", d, text+written([]string{"b"}), 30, false)
}

// longBatches tells batches that are just as long as a record may be.
func longBatches() [][]string {
	fill := func(room int) string { return strings.Repeat("f", room) }
	two := []string{fill(30000), strings.Repeat("g", longest-4-2-30000-2)}
	many := named(0, 200)
	left := longest - len(batch(many...)) - 2
	return [][]string{{fill(65529)}, {fill(65527), ""}, {"", fill(65527)}, two, append(many, fill(left))}
}

// P15.1: a batch that is just as long as a record may be is taken, and with one byte more, or more, it is ErrLong, and nothing.
func TestAddOfALongBatch(t *testing.T) {
	for _, items := range longBatches() {
		if len(batch(items...)) != longest {
			t.Fatalf("a batch of %d bytes", len(batch(items...)))
		}
		for _, front := range [][]string{nil, {"front"}} {
			d := kept(t, written(alone(front)...))
			l := opened(t, "P15.1: long", d, roomy(t), front, 0)
			was := told(d)
			last := len(items) - 1
			for _, more := range []string{"m", "mm", strings.Repeat("m", 1000), strings.Repeat("m", 200000)} {
				longer := slices.Clone(items)
				longer[last] += more
				addsNone(t, "P15.1: longer", l, longer, api.ErrLong)
				longer = slices.Clone(items)
				longer[0] += more
				addsNone(t, "P15.1: longer", l, longer, api.ErrLong)
			}
			addsNone(t, "P15.1: longer by an item", l, append(slices.Clone(items), "another"), api.ErrLong)
			stands(t, "P15.1: longer", l, front)
			lacks(t, "P15.1: longer", l, items...)
			if told(d) != was {
				t.Fatal("P15.1: longer: the disk is changed")
			}
			adds(t, "P15.1: as long as may be", l, append(slices.Clone(front), items...), upTo(0, len(front)+len(items))...)
			text := written(alone(front)...) + written(items)
			tells(t, "P15.1: as long as may be", d, text, len(text), false)
			opened(t, "P15.1: as long as may be, anew", d, roomy(t), slices.Concat(front, items), 0)
		}
	}
}

// P15.1: items that are there do not count for the length: the batch has the new ones alone.
func TestAddOfLongItemsThatAreThere(t *testing.T) {
	l, d := begun(t, "P15.1: long ones")
	long := []string{strings.Repeat("a", 65529), strings.Repeat("b", 65529)}
	addsNone(t, "P15.1: both new", l, long, api.ErrLong)
	adds(t, "P15.1: one", l, long[:1], 0)
	adds(t, "P15.1: the other", l, []string{long[0], long[1], long[0], long[1]}, 0, 1, 0, 1)
	text := written(long[:1], long[1:])
	tells(t, "P15.1: long ones", d, text, len(text), false)
	adds(t, "P15.1: both there", l, []string{long[1], long[0], "c"}, 1, 0, 2)
}

// P15.1: items that are too long, at each place among others: ErrLong, and none of the others is a leaf.
func TestAddOfTooLongItems(t *testing.T) {
	l, d := begun(t, "P15.1: too long")
	adds(t, "P15.1", l, []string{"a"}, 0)
	was := told(d)
	for _, n := range []int{65530, 65535, 65536, 65537, 1 << 17, 1 << 20} {
		long := strings.Repeat("x", n)
		for _, items := range [][]string{{long}, {long, "b"}, {"b", long}, {"b", long, "c"}, {"a", long}, {long, "a"}, {long, long}, {long, strings.Repeat("y", n)}} {
			addsNone(t, fmt.Sprintf("P15.1: an item of %d bytes", n), l, items, api.ErrLong)
		}
		lacks(t, "P15.1: too long", l, long, "b", "c")
	}
	stands(t, "P15.1: too long", l, []string{"a"})
	if told(d) != was {
		t.Error("P15.1: too long: the disk is changed")
	}
	adds(t, "P15.1: behind refusals", l, []string{"b", "a"}, 1, 0)
}

// P15.1: ErrLong by count and by length comes ahead of what the disk refuses, and makes no call of it.
func TestAddIsLongAheadOfFull(t *testing.T) {
	tooLong := []string{strings.Repeat("x", 65530)}
	for _, items := range [][]string{named(0, 257), named(0, 1000), tooLong, append(named(0, 256), tooLong...), append(tooLong, named(0, 256)...), {strings.Repeat("x", 1<<17)}} {
		full := made(t, 0)
		dark := roomy(t)
		goesDark(t, dark)
		armed := roomy(t)
		armed.Arm(2)
		addsNone(t, "P15.1: a full disk", opened(t, "P15.1", full, roomy(t), nil, 0), items, api.ErrLong)
		addsNone(t, "P15.1: without power", opened(t, "P15.1", dark, roomy(t), nil, 0), items, api.ErrLong)
		l := opened(t, "P15.1", armed, roomy(t), nil, 0)
		for range 4 {
			addsNone(t, "P15.1: armed", l, items, api.ErrLong)
		}
		tells(t, "P15.1: armed", armed, "", 0, false)
		armedSo(t, "P15.1: ErrLong", armed, 2)
	}
}

// P15.1, R3: on disks of each limit: where there is no room ErrFull, no numbers, and nothing; where there just is, the batch; with room again the same Add is taken.
func TestAddOfAFullDisk(t *testing.T) {
	front, items := []string{"a", "b"}, []string{"c", "a", "dd", "c"}
	begin := written(front)
	need := len(written([]string{"c", "dd"}))
	for room := range need + 5 {
		d := kept(t, begin)
		d.Grow(len(begin) + room)
		l := opened(t, "P15.1: full", d, roomy(t), front, 0)
		name := fmt.Sprintf("P15.1: room for %d bytes of %d", room, need)
		if room < need {
			for range 3 {
				addsNone(t, name, l, items, api.ErrFull)
				tells(t, name, d, begin, len(begin), false)
				stands(t, name, l, front)
				lacks(t, name, l, "c", "dd")
			}
			adds(t, name+", old ones", l, []string{"b", "a"}, 1, 0)
			d.Grow(len(begin) + need)
		}
		adds(t, name, l, items, 2, 0, 3, 2)
		tells(t, name, d, begin+written([]string{"c", "dd"}), len(begin)+need, false)
		stands(t, name, l, []string{"a", "b", "c", "dd"})
		opened(t, name+", anew", d, roomy(t), []string{"a", "b", "c", "dd"}, 0)
	}
}

// P15.1, R3: without power ErrFull, no numbers, and nothing.
func TestAddWithoutPower(t *testing.T) {
	begin := written([]string{"a"})
	d := kept(t, begin)
	l := opened(t, "P15.1: without power", d, roomy(t), []string{"a"}, 0)
	goesDark(t, d)
	for range 3 {
		addsNone(t, "P15.1: without power", l, []string{"b"}, api.ErrFull)
		addsNone(t, "P15.1: without power", l, []string{"a", "b"}, api.ErrFull)
		tells(t, "P15.1: without power", d, begin, len(begin), true)
		stands(t, "P15.1: without power", l, []string{"a"})
		lacks(t, "P15.1: without power", l, "b")
	}
}

// P15.1: Add is an Append of the whole record and a Sync: with each Arm, what each of three Adds answers, and how the disk is behind it.
func TestAddIsAppendAndSync(t *testing.T) {
	rows := [][]string{{"a", "b"}, {"c"}, {"d", "", "e"}}
	for arm := range 9 {
		l, d := begun(t, "P15.1: Arm")
		d.Arm(arm)
		there, synced := 0, 0
		for i, row := range rows {
			name := fmt.Sprintf("P15.1: Arm(%d), Add %d", arm, i)
			one, two := 2*i+1, 2*i+2 // which calls of the disk it makes
			if arm == 0 || one <= arm {
				there = i + 1
			}
			if arm == 0 || two < arm {
				synced = i + 1
				adds(t, name, l, row, upTo(len(slices.Concat(rows[:i]...)), len(row))...)
			} else {
				addsNone(t, name, l, row, api.ErrFull)
			}
			tells(t, name, d, written(rows[:there]...), len(written(rows[:synced]...)), arm > 0 && two >= arm)
			stands(t, name, l, slices.Concat(rows[:synced]...))
		}
	}
}

// P15.1: Add makes the calls that journal's Add of its record makes, and answers its refusal: with each Arm and limit, one held against the other.
func TestAddIsAJournalsAdd(t *testing.T) {
	rows := [][]string{{"a", "b"}, {"c"}, {strings.Repeat("x", 65530)}, {"d", "", "e"}}
	for arm := range 8 {
		for limit := range 70 {
			one, other := made(t, limit), made(t, limit)
			l := opened(t, "P15.1", one, roomy(t), nil, 0)
			j, _, _ := journal.Open(other)
			one.Arm(arm)
			other.Arm(arm)
			for _, row := range rows {
				want := j.Add([]byte(batch(row...)))
				got, why := l.Add(texts(row)...)
				if why != want || (len(got) == len(row)) != (want == api.OK) || told(one) != told(other) {
					t.Fatalf("P15.1: Add(%q), Arm(%d), limit %d: %v, %v, %s, by the journal %v, %s", short(row[0]), arm, limit, got, why, told(one), want, told(other))
				}
			}
		}
	}
}

// P15.1: what an Add writes is a journal's record, one for each Add with new ones.
func TestAddWritesRecords(t *testing.T) {
	l, d := begun(t, "P15.1: records")
	adds(t, "P15.1: records", l, []string{"a", "a", "b"}, 0, 0, 1)
	adds(t, "P15.1: records", l, []string{"b"}, 1)
	adds(t, "P15.1: records", l, []string{"b", "", "c", "a"}, 1, 2, 3, 0)
	_, records, why := journal.Open(d)
	if why != api.OK || len(records) != 2 || string(records[0]) != batch("a", "b") || string(records[1]) != batch("", "c") {
		t.Errorf("P15.1: records: %q, %v", records, why)
	}
}

// P15.1: Add makes no call of the keys' disk.
func TestAddLeavesTheKeys(t *testing.T) {
	k := kept(t, used(2))
	l := opened(t, "P15.1", roomy(t), k, nil, 2)
	k.Arm(1)
	adds(t, "P15.1", l, []string{"a", "b"}, 0, 1)
	addsNone(t, "P15.1", l, named(0, 300), api.ErrLong)
	tells(t, "P15.1: the keys' disk", k, used(2), 18, false)
	armedSo(t, "P15.1: the keys' disk", k, 1)
	adds(t, "P15.1: keys without power", l, []string{"c"}, 2)
	if l.KeysLeft() != 14 {
		t.Errorf("P15.1: KeysLeft %d", l.KeysLeft())
	}
}
