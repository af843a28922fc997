package keys_test

import (
	"fmt"
	"testing"

	"broadsheet/api"
	"broadsheet/disk"
	"broadsheet/keys"
)

// Kinds of steps.
const (
	doTake = iota
	doArm
	doOpen // anew, behind a crash or without one
	doCrash
	doGrow // to so many bytes of room
	kinds
)

// step is one thing that is done to a box or to its disk.
type step struct{ kind, n int }

func (s step) String() string {
	switch s.kind {
	case doTake:
		return "Take()"
	case doOpen:
		return "Open()"
	}
	return fmt.Sprintf("%s(%d)", map[int]string{doArm: "Arm", doCrash: "Crash", doGrow: "Grow"}[s.kind], s.n)
}

// account is what the chapters say of a box and of its disk, kept as numbers of keys.
type account struct {
	sure  int // keys whose records are synced
	loose int // keys whose records are not: 1 behind a Take at which power went
	piece int // how many bytes a crash left of a record
	next  int // the box's; -1: none is open
	limit int
	left  int // how many calls of the disk until power goes; 0: not armed
	dark  bool
}

// text tells what is on the disk.
func (a *account) text() string {
	return used(a.sure+a.loose) + lies(record(a.sure))[:a.piece]
}

// calls counts one call of the disk, and tells whether there is power behind it.
func (a *account) calls() bool {
	a.dark = a.dark || a.left == 1
	a.left = max(a.left-1, 0)
	return !a.dark
}

// take tells what Take answers.
func (a *account) take() (int, api.Errno) {
	key := a.next
	if key == all {
		return 0, api.ErrUsed
	}
	if a.dark {
		return 0, api.ErrFull
	}
	stays, room := a.calls(), a.limit-len(a.text())
	if room < size {
		return 0, api.ErrFull
	}
	a.loose++
	if !stays || !a.calls() {
		return 0, api.ErrFull
	}
	a.sure, a.loose, a.next = a.sure+a.loose, 0, key+1
	return key, api.OK
}

// open tells what Open answers.
func (a *account) open() api.Errno {
	a.next = -1
	if a.piece > 0 && !a.calls() {
		return api.ErrFull
	}
	a.piece, a.next = 0, a.sure+a.loose
	return api.OK
}

// crash leaves of what is loose so many bytes.
func (a *account) crash(keep int) {
	if a.loose > 0 {
		a.piece = min(max(keep, 0), size)
	}
	if a.piece == size {
		a.sure, a.piece = a.sure+1, 0
	}
	a.loose, a.left, a.dark, a.next = 0, 0, false, -1
}

// does notes what the step does, and tells what it must answer.
func (a *account) does(s step) (int, api.Errno) {
	switch s.kind {
	case doTake:
		if a.next >= 0 {
			return a.take()
		}
	case doArm:
		if !a.dark {
			a.left = max(s.n, 0)
		}
	case doOpen:
		return 0, a.open()
	case doCrash:
		a.crash(s.n)
	case doGrow:
		a.limit = len(a.text()) + s.n
	}
	return 0, api.OK
}

// bench is a disk, the box that was opened on it last, and its account.
type bench struct {
	t    *testing.T
	name string
	d    *disk.Disk
	b    *keys.Box // nil: none is open
	a    *account
	done []step
}

func begun(t *testing.T, name string, limit int) *bench {
	t.Helper()
	d := made(t, limit)
	return &bench{t: t, name: name, d: d, b: opened(t, name, d, 0), a: &account{limit: limit}}
}

// fails tells a fault behind the steps that were done.
func (b *bench) fails(form string, args ...any) bool {
	b.t.Helper()
	last := b.done[max(len(b.done)-12, 0):]
	b.t.Errorf("%s: .. %v: %s", b.name, last, fmt.Sprintf(form, args...))
	return false
}

// plays does the steps, and holds all that is told behind each one against the account. It tells whether all was well.
func (b *bench) plays(steps ...step) bool {
	b.t.Helper()
	for _, s := range steps {
		b.done = append(b.done, s)
		key, want := b.a.does(s)
		got, why := b.does(s)
		if got != key || why != want {
			return b.fails("%d, %v, want %d, %v", got, why, key, want)
		}
		if !b.holds() {
			return false
		}
	}
	return true
}

// does does the step on the box and on its disk.
func (b *bench) does(s step) (int, api.Errno) {
	switch s.kind {
	case doTake:
		if b.b != nil {
			return b.b.Take()
		}
	case doArm:
		b.d.Arm(s.n)
	case doOpen:
		var why api.Errno
		b.b, why = keys.Open(b.d)
		return 0, why
	case doCrash:
		b.d.Crash(s.n)
		b.b = nil
	case doGrow:
		b.d.Grow(b.d.Size() + s.n)
	}
	return 0, api.OK
}

// holds holds the disk and the box against the account.
func (b *bench) holds() bool {
	b.t.Helper()
	text := b.a.text()
	synced := size*b.a.sure + b.a.piece
	if string(b.d.Bytes()) != text || b.d.Size() != len(text) || b.d.Synced() != synced || b.d.Down() != b.a.dark {
		return b.fails("the disk is %s, want %q, %d synced, %v", told(b.d), text, synced, b.a.dark)
	}
	if (b.b != nil) != (b.a.next >= 0) {
		return b.fails("the box is %v, want the next key %d", b.b, b.a.next)
	}
	if b.b != nil && (b.b.Next() != b.a.next || b.b.Left() != all-b.a.next) {
		return b.fails("Next %d, Left %d, want %d", b.b.Next(), b.b.Left(), b.a.next)
	}
	return true
}

// eachRow calls f with each row of n of these steps. f tells whether to go on.
func eachRow(from []step, n int, f func([]step) bool) bool {
	row := make([]step, n)
	var fill func(at int) bool
	fill = func(at int) bool {
		if at == n {
			return f(row)
		}
		for _, s := range from {
			row[at] = s
			if !fill(at + 1) {
				return false
			}
		}
		return true
	}
	return fill(0)
}
