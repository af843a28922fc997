package disk_test

import (
	"bytes"
	"fmt"
	"math"
	"testing"

	"broadsheet/api"
	"broadsheet/disk"
)

// noise tells n bytes without a plain rule.
func noise(n int) []byte {
	b := make([]byte, n)
	x := uint32(2463534242)
	for i := range b {
		x ^= x << 13
		x ^= x >> 17
		x ^= x << 5
		b[i] = byte(x >> 11)
	}
	return b
}

// made tells a new disk of that limit.
func made(t *testing.T, limit int) *disk.Disk {
	t.Helper()
	d, why := disk.New(limit)
	if d == nil || why != api.OK {
		t.Fatalf("P12.1: New(%d): %v, %v", limit, d, why)
	}
	return d
}

// laid tells a disk of that limit with these bytes, the first ones of them synced.
func laid(t *testing.T, limit int, first, rest string) *disk.Disk {
	t.Helper()
	d := made(t, limit)
	answers(t, "P12.1: Append", d.Append([]byte(first)), api.OK)
	answers(t, "P12.1: Sync", d.Sync(), api.OK)
	answers(t, "P12.1: Append", d.Append([]byte(rest)), api.OK)
	return d
}

// answers holds what a call answered against what it must.
func answers(t *testing.T, name string, got, want api.Errno) {
	t.Helper()
	if got != want {
		t.Errorf("%s: %v, want %v", name, got, want)
	}
}

// tells holds all that a disk tells against what it must.
func tells(t *testing.T, name string, d *disk.Disk, all string, synced int, down bool) {
	t.Helper()
	if got := d.Bytes(); string(got) != all {
		t.Errorf("%s: Bytes: %q, want %q", name, short(got), short([]byte(all)))
	}
	if d.Size() != len(all) || d.Synced() != synced || d.Down() != down {
		t.Errorf("%s: Size %d, Synced %d, Down %v, want %d, %d, %v", name, d.Size(), d.Synced(), d.Down(), len(all), synced, down)
	}
}

// short tells few of many bytes, so that a fault's text can be read.
func short(b []byte) []byte {
	if len(b) > 60 {
		return append(bytes.Clone(b[:60]), "..."...)
	}
	return b
}

// room holds how many bytes more a disk with power takes against what it must. It leaves them there.
func room(t *testing.T, name string, d *disk.Disk, want int) {
	t.Helper()
	answers(t, fmt.Sprintf("%s: Append of %d bytes", name, want+1), d.Append(noise(want+1)), api.ErrFull)
	answers(t, fmt.Sprintf("%s: Append of %d bytes", name, want), d.Append(noise(want)), api.OK)
}

// farOff tells numbers far below and far above all that a disk has.
func farOff() []int {
	return []int{math.MinInt, math.MinInt + 1, -1 << 32, -1 << 31, -api.MaxDisk, math.MaxInt - 1, math.MaxInt, 1 << 32, 1 << 31}
}

// Kinds of steps.
const (
	doAppend = iota
	doSync
	doCut
	doGrow
	doArm
	doCrash
	kinds
)

// step is one call that may change a disk.
type step struct {
	kind, n int
	b       string
}

func (s step) String() string {
	switch s.kind {
	case doAppend:
		return fmt.Sprintf("Append(%q)", s.b)
	case doSync:
		return "Sync()"
	}
	return fmt.Sprintf("%s(%d)", []string{"", "", "Cut", "Grow", "Arm", "Crash"}[s.kind], s.n)
}

// does makes the step's call, and tells its answer, if it has one.
func does(d *disk.Disk, s step) string {
	switch s.kind {
	case doAppend:
		return fmt.Sprint(int(d.Append([]byte(s.b))))
	case doSync:
		return fmt.Sprint(int(d.Sync()))
	case doCut:
		return fmt.Sprint(int(d.Cut(s.n)))
	case doGrow:
		return fmt.Sprint(d.Grow(s.n))
	case doArm:
		d.Arm(s.n)
	default:
		d.Crash(s.n)
	}
	return ""
}

// account is what the chapter says of a disk, kept in another way: two texts, and the numbers of calls since the beginning.
type account struct {
	sure, loose string
	limit       int
	calls, goes int // how many counted, and which of them is the one at which power goes; -1: none
	dark        bool
}

func begun(limit int) *account { return &account{limit: limit, goes: -1} }

func (a *account) all() string { return a.sure + a.loose }

// counts counts a call with power, and tells whether power goes at it.
func (a *account) counts() bool {
	a.calls++
	a.dark = a.calls == a.goes
	return a.dark
}

// does tells what the step's call must answer, and notes what it does.
func (a *account) does(s step) string {
	switch s.kind {
	case doAppend, doSync, doCut:
		if a.dark {
			return fmt.Sprint(int(api.ErrFull))
		}
		return fmt.Sprint(int(a.writes(s)))
	case doGrow:
		fits := s.n >= len(a.all()) && s.n <= api.MaxDisk
		if fits {
			a.limit = s.n
		}
		return fmt.Sprint(fits)
	case doArm:
		a.arms(s.n)
	default:
		stays := 0
		for stays < s.n && stays < len(a.loose) {
			stays++
		}
		*a = account{sure: a.sure + a.loose[:stays], limit: a.limit, goes: -1}
	}
	return ""
}

func (a *account) arms(n int) {
	switch {
	case a.dark:
	case n < 1:
		a.goes = -1
	default:
		a.goes = a.calls + n
	}
}

// writes is an Append, a Sync or a Cut with power.
func (a *account) writes(s step) api.Errno {
	if s.kind == doCut && (s.n < 0 || s.n > len(a.all())) {
		return api.ErrArg
	}
	goes := a.counts()
	switch {
	case s.kind == doAppend && len(a.all()+s.b) > a.limit:
		return api.ErrFull
	case s.kind == doAppend:
		a.loose += s.b
	case goes:
	case s.kind == doSync:
		a.sure, a.loose = a.all(), ""
	default:
		a.sure, a.loose = a.all()[:s.n], ""
	}
	if goes {
		return api.ErrFull
	}
	return api.OK
}

// plays makes the steps' calls on the disk and on the account, and holds all that the disk tells behind each one against it. It tells whether all was well.
func plays(t *testing.T, promise string, d *disk.Disk, a *account, steps ...step) bool {
	t.Helper()
	for i, s := range steps {
		got, want := does(d, s), a.does(s)
		if got != want {
			t.Errorf("%s: %v: the last one answers %s, want %s", promise, steps[:i+1], got, want)
			return false
		}
		if string(d.Bytes()) != a.all() || d.Size() != len(a.all()) || d.Synced() != len(a.sure) || d.Down() != a.dark {
			t.Errorf("%s: %v: %q, %d, %d, %v, want %q, %d, %d, %v", promise, steps[:i+1], short(d.Bytes()), d.Size(), d.Synced(), d.Down(), short([]byte(a.all())), len(a.all()), len(a.sure), a.dark)
			return false
		}
	}
	return true
}

// eachRow calls f with each row of n of these steps. f tells whether to go on.
func eachRow(from []step, n int, f func([]step) bool) bool {
	row := make([]step, n)
	var fill func(at int) bool
	fill = func(at int) bool {
		if at == n {
			return f(row)
		}
		for _, s := range from {
			row[at] = s
			if !fill(at + 1) {
				return false
			}
		}
		return true
	}
	return fill(0)
}
