package agenda_test

import (
	"fmt"
	"math"
	"math/rand"
	"slices"
	"testing"

	"broadsheet/agenda"
)

// pair is one call of Add.
type pair struct{ at, what int }

// filled tells an agenda to which the pairs were added, in their order.
func filled(pairs ...pair) *agenda.Agenda {
	a := agenda.New()
	for _, p := range pairs {
		a.Add(p.at, p.what)
	}
	return a
}

// taken takes all that is due at now, at most most of them, so that an agenda that takes nothing away ends too.
func taken(a *agenda.Agenda, now, most int) []int {
	var things []int
	for range most {
		what, ok := a.Due(now)
		if !ok {
			break
		}
		things = append(things, what)
	}
	return things
}

// next tells Next's answers as text.
func next(a *agenda.Agenda) string {
	at, what, ok := a.Next()
	return fmt.Sprint(at, what, ok)
}

// due tells Due's answers as text.
func due(a *agenda.Agenda, now int) string {
	what, ok := a.Due(now)
	return fmt.Sprint(what, ok)
}

// has holds all that can be asked without taking anything against the things that must be there.
func has(t *testing.T, name string, a *agenda.Agenda, things ...int) {
	t.Helper()
	if got := a.All(); !slices.Equal(got, things) {
		t.Errorf("P3.1: %s: All: %v, want %v", name, got, things)
	}
	if got := a.Len(); got != len(things) {
		t.Errorf("P3.1: %s: Len: %d, want %d", name, got, len(things))
	}
	_, what, ok := a.Next()
	if ok != (len(things) > 0) || ok && what != things[0] {
		t.Errorf("P3.1: %s: Next: %d, %v, want the first of %v", name, what, ok, things)
	}
}

// P3.1: the chapter's run.
func TestRun(t *testing.T) {
	a := filled(pair{5, 1}, pair{3, 2}, pair{5, 3})
	has(t, "the run", a, 2, 1, 3)
	if got := next(a); got != "3 2 true" {
		t.Errorf("P3.1: Next: %s", got)
	}
	if got := taken(a, 5, 9); !slices.Equal(got, []int{2, 1, 3}) {
		t.Errorf("P3.1: taken: %v", got)
	}
	has(t, "the run, taken", a)
}

// P3.1: nothing is to be done: from the beginning on, after all was taken, after all was cancelled.
func TestNothing(t *testing.T) {
	emptied, cancelled := filled(pair{4, 1}), filled(pair{4, 1}, pair{7, 1})
	emptied.Due(4)
	cancelled.Cancel(1)
	for name, a := range map[string]*agenda.Agenda{"new": agenda.New(), "all taken": emptied, "all cancelled": cancelled} {
		for range 2 {
			has(t, name, a)
			if got := next(a); got != "0 0 false" {
				t.Errorf("P3.1: %s: Next: %s", name, got)
			}
			for _, now := range []int{math.MinInt, -1, 0, 4, 7, math.MaxInt} {
				if got := due(a, now); got != "0 false" {
					t.Errorf("P3.1: %s: Due(%d): %s", name, now, got)
				}
			}
			for _, what := range []int{math.MinInt, -1, 0, 1, math.MaxInt} {
				if got := a.Cancel(what); got != 0 {
					t.Errorf("P3.1: %s: Cancel(%d): %d", name, what, got)
				}
			}
		}
		a.Add(6, 8)
		has(t, name+", then one", a, 8)
	}
}

// P3.1: a time is not a thing: what has the times and the numbers of others is not cancelled.
func TestCancelOfWhatIsNotThere(t *testing.T) {
	a := filled(pair{5, 1}, pair{3, 2}, pair{5, 4})
	for _, what := range []int{0, 3, 5, -1, -2, math.MinInt, math.MaxInt} {
		if got := a.Cancel(what); got != 0 {
			t.Errorf("P3.1: Cancel(%d): %d", what, got)
		}
	}
	has(t, "cancelled what is not there", a, 2, 1, 4)
	a.Due(3)
	if got := a.Cancel(2); got != 0 {
		t.Errorf("P3.1: Cancel of what was taken: %d", got)
	}
	a.Cancel(1)
	if got := a.Cancel(1); got != 0 {
		t.Errorf("P3.1: Cancel of what was cancelled: %d", got)
	}
	has(t, "one is left", a, 4)
}

// P3.1: Next takes nothing, and Due just one, even where others are due too.
func TestDueTakesOne(t *testing.T) {
	a := filled(pair{1, 10}, pair{1, 10}, pair{2, 20})
	for range 3 {
		if got := next(a); got != "1 10 true" {
			t.Errorf("P3.1: Next: %s", got)
		}
	}
	for _, left := range [][]int{{10, 20}, {20}, {}} {
		if what, ok := a.Due(9); !ok || what == 0 {
			t.Errorf("P3.1: Due(9): %d, %v", what, ok)
		}
		has(t, "one taken", a, left...)
	}
}

// P3.1: Due looks at the first one alone: a later one that was added earlier does not come ahead of it.
func TestDueOfWhatIsNotYet(t *testing.T) {
	a := filled(pair{9, 1}, pair{4, 2}, pair{6, 3})
	for _, c := range []struct {
		now  int
		want string
	}{{3, "0 false"}, {6, "2 true"}, {5, "0 false"}, {6, "3 true"}, {8, "0 false"}, {8, "0 false"}, {100, "1 true"}, {100, "0 false"}} {
		if got := due(a, c.now); got != c.want {
			t.Errorf("P3.1: Due(%d): %s, want %s", c.now, got, c.want)
		}
	}
}

// P3.1: what Due leaves it leaves as it was, and now may go back.
func TestDueThatIsFalseChangesNothing(t *testing.T) {
	a := filled(pair{5, 1}, pair{3, 2}, pair{5, 3})
	for _, now := range []int{2, math.MinInt, 0, -3, 2} {
		if got := due(a, now); got != "0 false" {
			t.Errorf("P3.1: Due(%d): %s", now, got)
		}
		has(t, "nothing was due", a, 2, 1, 3)
	}
}

// P3.1: now one below, at and one above a time, at each bound.
func TestTimesAtEachBound(t *testing.T) {
	for _, at := range []int{math.MinInt, math.MinInt + 1, -1 << 40, -5, -1, 0, 1, 5, 1<<31 - 1, 1 << 31, 1<<40 - 1, math.MaxInt - 1, math.MaxInt} {
		for _, what := range []int{0, 7, -7, math.MinInt, math.MaxInt} {
			a := filled(pair{at, what})
			if got, want := next(a), fmt.Sprint(at, what, true); got != want {
				t.Errorf("P3.1: Next: %s, want %s", got, want)
			}
			if at > math.MinInt {
				for _, now := range []int{math.MinInt, at - 1} {
					if got := due(a, now); got != "0 false" {
						t.Errorf("P3.1: at %d: Due(%d): %s", at, now, got)
					}
				}
			}
			has(t, fmt.Sprint("at ", at), a, what)
			nows := []int{at, math.MaxInt}
			if at < math.MaxInt {
				nows = append(nows, at+1)
			}
			for _, now := range nows {
				a := filled(pair{at, what})
				if got, want := due(a, now), fmt.Sprint(what, true); got != want {
					t.Errorf("P3.1: at %d: Due(%d): %s, want %s", at, now, got, want)
				}
				has(t, fmt.Sprint("taken at ", now), a)
			}
		}
	}
}

// P3.1: the least and the greatest number stand apart: their difference is no number.
func TestTimesFarApart(t *testing.T) {
	times := []int{math.MinInt, math.MinInt + 1, -1, 0, 1, math.MaxInt - 1, math.MaxInt}
	dice := rand.New(rand.NewSource(1))
	for range 200 {
		a := agenda.New()
		for _, i := range dice.Perm(len(times)) {
			a.Add(times[i], i)
		}
		has(t, "times far apart", a, 0, 1, 2, 3, 4, 5, 6)
		for i, at := range times {
			if got, want := next(a), fmt.Sprint(at, i, true); got != want {
				t.Errorf("P3.1: Next: %s, want %s", got, want)
			}
			if got, want := due(a, at), fmt.Sprint(i, true); got != want {
				t.Errorf("P3.1: Due(%d): %s, want %s", at, got, want)
			}
		}
	}
}

// P3.1: many of one time come in the order in which they were added, whatever their things are.
func TestManyOfOneTime(t *testing.T) {
	for n := range 70 {
		a := agenda.New()
		var want []int
		for i := range n {
			what := (n - i) * (1 - i%2*2) // falling, every other one below zero
			a.Add(4, what)
			want = append(want, what)
		}
		has(t, fmt.Sprint(n, " of one time"), a, want...)
		if got := taken(a, 4, n+1); !slices.Equal(got, want) {
			t.Errorf("P3.1: %d of one time: %v, want %v", n, got, want)
		}
	}
}

// P3.1: that order stays, whatever is taken, cancelled and added between.
func TestManyOfOneTimeTakenBetween(t *testing.T) {
	a := agenda.New()
	var want []int
	for i := range 300 {
		a.Add(4, i)
		a.Add(2, 1000) // earlier, so that it goes ahead of all
		want = append(want, i)
		switch i % 3 {
		case 0:
			if got := due(a, 3); got != "1000 true" {
				t.Fatalf("P3.1: Due(3): %s", got)
			}
		case 1:
			if got := a.Cancel(1000); got != 1 {
				t.Fatalf("P3.1: Cancel(1000): %d", got)
			}
		default:
			a.Cancel(1000)
			gone := want[len(want)/2]
			if got := a.Cancel(gone); got != 1 {
				t.Fatalf("P3.1: Cancel(%d): %d", gone, got)
			}
			want = slices.Delete(want, len(want)/2, len(want)/2+1)
			if got := due(a, 4); got != fmt.Sprint(want[0], true) {
				t.Fatalf("P3.1: Due(4): %s, want %d", got, want[0])
			}
			want = want[1:]
		}
		has(t, fmt.Sprint("after ", i), a, want...)
	}
	if got := taken(a, 4, 999); !slices.Equal(got, want) {
		t.Errorf("P3.1: taken: %v, want %v", got, want)
	}
}

// P3.1: what is added once more, after it was taken or cancelled, or after nothing was left, stands behind those of its time.
func TestAddedOnceMore(t *testing.T) {
	a := filled(pair{4, 1}, pair{4, 2}, pair{4, 3})
	a.Due(4)
	a.Add(4, 1)
	has(t, "taken and added", a, 2, 3, 1)
	a.Cancel(2)
	a.Add(4, 2)
	has(t, "cancelled and added", a, 3, 1, 2)
	taken(a, 4, 9)
	a.Add(4, 6)
	a.Add(4, 5)
	has(t, "after nothing was left", a, 6, 5)
}

// P3.1: one thing that is there several times, at one time and at several, is told so often and cancelled at once.
func TestCancelTakesAll(t *testing.T) {
	a := filled(pair{5, 7}, pair{1, 7}, pair{5, 8}, pair{5, 7}, pair{3, 9}, pair{math.MinInt, 7}, pair{math.MaxInt, 7}, pair{9, -7})
	has(t, "several times", a, 7, 7, 9, 7, 8, 7, -7, 7)
	if got := a.Cancel(7); got != 5 {
		t.Errorf("P3.1: Cancel(7): %d", got)
	}
	has(t, "cancelled", a, 9, 8, -7)
	if got := taken(a, math.MaxInt, 9); !slices.Equal(got, []int{9, 8, -7}) {
		t.Errorf("P3.1: taken: %v", got)
	}
	for n := range 40 {
		a := agenda.New()
		for i := range n {
			a.Add(i%3, 6)
		}
		a.Add(1, 5)
		if got := a.Cancel(6); got != n {
			t.Errorf("P3.1: Cancel of %d: %d", n, got)
		}
		has(t, fmt.Sprint(n, " cancelled"), a, 5)
	}
}

// P3.1: whoever is cancelled of many, the others come in their order: the times are laid down in every order of six.
func TestCancelKeepsTheOrder(t *testing.T) {
	var lay func(times []int, k int)
	lay = func(times []int, k int) {
		if k == len(times) {
			for gone := range times {
				a := agenda.New()
				for _, at := range times {
					a.Add(at, at)
				}
				a.Cancel(gone)
				if got, want := taken(a, 9, 9), slices.Delete([]int{0, 1, 2, 3, 4, 5}, gone, gone+1); !slices.Equal(got, want) {
					t.Fatalf("P3.1: %v without %d: %v", times, gone, got)
				}
			}
			return
		}
		for i := k; i < len(times); i++ {
			times[k], times[i] = times[i], times[k]
			lay(times, k+1)
			times[k], times[i] = times[i], times[k]
		}
	}
	lay([]int{0, 1, 2, 3, 4, 5}, 0)
}

// R2: All's answer belongs to who asked, the room behind it too.
func TestAllIsNewMemory(t *testing.T) {
	a := filled(pair{5, 1}, pair{3, 2}, pair{5, 3}, pair{8, 4})
	kept := a.All()
	for range 3 {
		l := a.All()
		for i := range l[:cap(l)] {
			l[:cap(l)][i] = -99
		}
		_ = append(l, 98, 97)
		has(t, "an answer was changed", a, 2, 1, 3, 4)
	}
	if got := next(a); got != "3 2 true" {
		t.Errorf("R2: Next: %s", got)
	}
	a.Add(1, 6)
	a.Due(1)
	a.Cancel(3)
	if !slices.Equal(kept, []int{2, 1, 3, 4}) {
		t.Errorf("R2: an earlier answer: %v", kept)
	}
	if got := taken(a, 9, 9); !slices.Equal(got, []int{2, 1, 4}) {
		t.Errorf("R2: taken: %v", got)
	}
}

// R4: asking changes nothing, whatever is asked and how often.
func TestAskingChangesNothing(t *testing.T) {
	dice := rand.New(rand.NewSource(2))
	for range 200 {
		quiet, asked := agenda.New(), agenda.New()
		for range dice.Intn(40) {
			at, what := dice.Intn(5), dice.Intn(9)
			quiet.Add(at, what)
			asked.Add(at, what)
			asked.All()
			asked.Next()
			asked.Len()
			asked.Due(-1)
			asked.Cancel(-1)
		}
		if x, y := taken(quiet, 5, 99), taken(asked, 5, 99); !slices.Equal(x, y) {
			t.Fatalf("R4: %v, asked between %v", x, y)
		}
	}
}

// P3.1, R4: agendas stand each by itself.
func TestAgendasApart(t *testing.T) {
	x, y := agenda.New(), agenda.New()
	x.Add(5, 1)
	y.Add(5, 2)
	x.Add(5, 3)
	y.Cancel(1)
	has(t, "the one", x, 1, 3)
	has(t, "the other", y, 2)
	x.Due(5)
	has(t, "the other, later", y, 2)
}

// R1: a nil agenda answers zero values.
func TestNilAgenda(t *testing.T) {
	var a *agenda.Agenda
	a.Add(1, 2)
	if got := next(a) + " " + due(a, math.MaxInt); got != "0 0 false 0 false" {
		t.Errorf("R1: Next, Due: %s", got)
	}
	if a.Cancel(2) != 0 || a.Len() != 0 || len(a.All()) != 0 {
		t.Error("R1: Cancel, Len, All of a nil agenda")
	}
}

// P3.1: up to one time and then up to another is the same as at once.
func TestTakenInPieces(t *testing.T) {
	dice := rand.New(rand.NewSource(3))
	for range 500 {
		atOnce, inPieces := agenda.New(), agenda.New()
		n := dice.Intn(60)
		for range n {
			at, what := dice.Intn(21)-10, dice.Intn(1000)
			atOnce.Add(at, what)
			inPieces.Add(at, what)
		}
		all := atOnce.All()
		whole := taken(atOnce, 10, n+1)
		var pieces []int
		for now := -11; now <= 10; now += 1 + dice.Intn(6) {
			pieces = append(pieces, taken(inPieces, now, n+1)...)
			if at, _, ok := inPieces.Next(); ok && at <= now {
				t.Fatalf("P3.1: at %d one of %d is left", now, at)
			}
			if !slices.Equal(inPieces.All(), all[len(pieces):]) {
				t.Fatalf("P3.1: All at %d: %v, want %v", now, inPieces.All(), all[len(pieces):])
			}
		}
		pieces = append(pieces, taken(inPieces, 10, n+1)...)
		if !slices.Equal(whole, all) || !slices.Equal(pieces, all) {
			t.Fatalf("P3.1: at once %v, in pieces %v, want %v", whole, pieces, all)
		}
	}
}

// P3.1: any play, held against a plain list that is kept in order.
func TestAnyPlay(t *testing.T) {
	dice := rand.New(rand.NewSource(4))
	times := []int{math.MinInt, math.MinInt + 1, -2, -1, 0, 1, 2, math.MaxInt - 1, math.MaxInt}
	for range 100 {
		a := agenda.New()
		var list []pair
		for range 200 {
			at, what := times[dice.Intn(len(times))], dice.Intn(30)-10
			switch dice.Intn(8) {
			case 0:
				before := len(list)
				list = slices.DeleteFunc(list, func(p pair) bool { return p.what == what })
				if got := a.Cancel(what); got != before-len(list) {
					t.Fatalf("P3.1: Cancel(%d): %d, want %d", what, got, before-len(list))
				}
			case 1, 2:
				want := "0 false"
				if len(list) > 0 && list[0].at <= at {
					want = fmt.Sprint(list[0].what, true)
					list = list[1:]
				}
				if got := due(a, at); got != want {
					t.Fatalf("P3.1: Due(%d): %s, want %s", at, got, want)
				}
			default:
				a.Add(at, what)
				behind := len(list)
				for behind > 0 && list[behind-1].at > at {
					behind--
				}
				list = slices.Insert(list, behind, pair{at, what})
			}
			matches(t, a, list)
		}
	}
}

// matches holds what the agenda tells against the list, which is in order.
func matches(t *testing.T, a *agenda.Agenda, list []pair) {
	t.Helper()
	things := make([]int, 0, len(list))
	for _, p := range list {
		things = append(things, p.what)
	}
	want := "0 0 false"
	if len(list) > 0 {
		want = fmt.Sprint(list[0].at, list[0].what, true)
	}
	if got := next(a); got != want || a.Len() != len(list) || !slices.Equal(a.All(), things) {
		t.Fatalf("P3.1: Next %s, Len %d, All %v, want %s, %d, %v", got, a.Len(), a.All(), want, len(list), things)
	}
}

// P3.1, R1: a great many end soon, since a heap moves few of them at a time.
func TestAGreatMany(t *testing.T) {
	const n = 200000
	a := agenda.New()
	for i := range n {
		a.Add((i*7919)%n, i%1000)
	}
	if got := a.Cancel(3); got != n/1000 || a.Len() != n-n/1000 || len(a.All()) != a.Len() {
		t.Errorf("P3.1: Cancel of a great many: %d", got)
	}
	last := math.MinInt
	for a.Len() > 0 {
		at, what, _ := a.Next()
		if got, ok := a.Due(at); at < last || !ok || got != what || what == 3 {
			t.Fatalf("P3.1: at %d, behind %d: %d, %v", at, last, got, ok)
		}
		last = at
	}
}
