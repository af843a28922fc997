package journal_test

import (
	"fmt"
	"strings"
	"testing"

	"broadsheet/api"
	"broadsheet/disk"
	"broadsheet/journal"
)

// Kinds of steps.
const (
	doAdd = iota
	doPut
	doSync
	doArm
	doOpen  // anew, without a crash
	doCrash // and then open anew
	kinds
)

// step is one thing that is done to a journal or to its disk.
type step struct {
	kind, n int
	rec     string
}

func (s step) String() string {
	switch s.kind {
	case doAdd, doPut:
		return fmt.Sprintf("%s(%q)", []string{"Add", "Put"}[s.kind], short(s.rec))
	case doArm, doCrash:
		return fmt.Sprintf("%s(%d)", map[int]string{doArm: "Arm", doCrash: "Crash"}[s.kind], s.n)
	case doSync:
		return "Sync()"
	}
	return "Open()"
}

// account is what the chapters say of a journal and of its disk, kept as records, not as bytes.
type account struct {
	sure, loose []string // records that are synced, and those that are not
	count       int
	limit       int
	left        int // how many calls of the disk until power goes; 0: not armed
	dark        bool
}

// size tells how many bytes records take.
func size(recs []string) int {
	n := 8 * len(recs)
	for _, rec := range recs {
		n += len(rec)
	}
	return n
}

// all tells the records in new memory.
func (a *account) all() []string { return append(append([]string(nil), a.sure...), a.loose...) }

// calls counts one call of the disk with power, and tells whether power stays.
func (a *account) calls() bool {
	a.dark = a.left == 1
	a.left = max(a.left-1, 0)
	return !a.dark
}

func (a *account) put(rec string) api.Errno {
	if len(rec) > api.MaxRecord {
		return api.ErrLong
	}
	if a.dark {
		return api.ErrFull
	}
	stays := a.calls()
	if size(a.all())+8+len(rec) > a.limit {
		return api.ErrFull
	}
	a.loose = append(a.loose, rec)
	if !stays {
		return api.ErrFull
	}
	a.count++
	return api.OK
}

func (a *account) sync() api.Errno {
	if a.dark || !a.calls() {
		return api.ErrFull
	}
	a.sure, a.loose = a.all(), nil
	return api.OK
}

// crash tells the records that a crash leaves: all that are synced, and of the others the first ones, as many as are whole within keep bytes.
func (a *account) crash(keep int) {
	whole := 0
	for whole < len(a.loose) && size(a.loose[:whole+1]) <= keep {
		whole++
	}
	a.sure, a.loose = append(a.sure, a.loose[:whole]...), nil
	a.count, a.left, a.dark = len(a.sure), 0, false
}

// does notes what the step does, and tells what it must answer.
func (a *account) does(s step) api.Errno {
	switch s.kind {
	case doAdd:
		if why := a.put(s.rec); why != api.OK {
			return why
		}
		return a.sync()
	case doPut:
		return a.put(s.rec)
	case doSync:
		return a.sync()
	case doArm:
		if !a.dark {
			a.left = max(s.n, 0)
		}
	case doOpen:
		a.count = len(a.sure) + len(a.loose)
	case doCrash:
		a.crash(s.n)
	}
	return api.OK
}

// bench is a disk, the journal that was opened on it last, and its account.
type bench struct {
	t    *testing.T
	name string
	d    *disk.Disk
	j    *journal.Journal
	a    *account
	done []step
}

func begun(t *testing.T, name string, limit int) *bench {
	t.Helper()
	d := made(t, limit)
	return &bench{t: t, name: name, d: d, j: opened(t, name, d), a: &account{limit: limit}}
}

// fails tells a fault behind the steps that were done.
func (b *bench) fails(form string, args ...any) bool {
	b.t.Helper()
	last := b.done[max(len(b.done)-12, 0):]
	b.t.Errorf("%s: .. %v: %s", b.name, last, fmt.Sprintf(form, args...))
	return false
}

// reopens opens anew, and holds the records against the account's.
func (b *bench) reopens() bool {
	b.t.Helper()
	j, got, why := journal.Open(b.d)
	if why != api.OK || j == nil {
		return b.fails("Open: %v, %v", j, why)
	}
	want := b.a.all()
	if len(got) != len(want) {
		return b.fails("Open: %d records, want %d", len(got), len(want))
	}
	for i := range got {
		if string(got[i]) != want[i] {
			return b.fails("Open: record %d: %q, want %q", i, short(string(got[i])), short(want[i]))
		}
	}
	b.j = j
	return true
}

// plays does the steps, and holds all that is told behind each one against the account. It tells whether all was well.
func (b *bench) plays(steps ...step) bool {
	b.t.Helper()
	for _, s := range steps {
		b.done = append(b.done, s)
		want := b.a.does(s)
		why, well := b.does(s)
		if !well || why != want {
			return b.fails("%v, want %v", why, want)
		}
		if !b.holds() {
			return false
		}
	}
	return true
}

// does does the step on the journal and on its disk.
func (b *bench) does(s step) (api.Errno, bool) {
	b.t.Helper()
	switch s.kind {
	case doAdd:
		return b.j.Add([]byte(s.rec)), true
	case doPut:
		return b.j.Put([]byte(s.rec)), true
	case doSync:
		return b.j.Sync(), true
	case doArm:
		b.d.Arm(s.n)
	case doCrash:
		b.d.Crash(s.n)
		return api.OK, b.reopens()
	case doOpen:
		return api.OK, b.reopens()
	}
	return api.OK, true
}

// holds holds the disk and Count against the account.
func (b *bench) holds() bool {
	b.t.Helper()
	all := lies(b.a.all()...)
	if string(b.d.Bytes()) != all || b.d.Size() != len(all) || b.d.Synced() != size(b.a.sure) || b.d.Down() != b.a.dark {
		return b.fails("the disk is %s, want %q, %d synced, %v", short(told(b.d)), short(all), size(b.a.sure), b.a.dark)
	}
	if b.j.Count() != b.a.count {
		return b.fails("Count %d, want %d", b.j.Count(), b.a.count)
	}
	return true
}

// eachRow calls f with each row of n of these steps. f tells whether to go on.
func eachRow(from []step, n int, f func([]step) bool) bool {
	row := make([]step, n)
	var fill func(at int) bool
	fill = func(at int) bool {
		if at == n {
			return f(row)
		}
		for _, s := range from {
			row[at] = s
			if !fill(at + 1) {
				return false
			}
		}
		return true
	}
	return fill(0)
}

// joined tells records as one text, for rows that are held against each other.
func joined(recs []string) string { return strings.Join(recs, "|") + "|" }
