package ledger_test

import (
	"fmt"
	"slices"
	"testing"

	"broadsheet/api"
	"broadsheet/disk"
	"broadsheet/ledger"
)

// plate is what the chapter of disks says of one.
type plate struct {
	text   string
	synced int
	limit  int
	left   int // how many calls until power goes; 0: not armed
	dark   bool
}

// calls counts one call, and tells whether there is power behind it.
func (p *plate) calls() bool {
	p.dark = p.dark || p.left == 1
	p.left = max(p.left-1, 0)
	return !p.dark
}

// add tells what an Append of the text and then a Sync answer.
func (p *plate) add(text string) api.Errno {
	if p.dark {
		return api.ErrFull
	}
	stays := p.calls()
	if len(p.text)+len(text) > p.limit {
		return api.ErrFull
	}
	p.text += text
	if !stays || !p.calls() {
		return api.ErrFull
	}
	p.synced = len(p.text)
	return api.OK
}

// cut tells what a Cut answers that leaves the first n bytes; none is made where there are no more.
func (p *plate) cut(n int) api.Errno {
	if n == len(p.text) {
		return api.OK
	}
	if !p.calls() {
		return api.ErrFull
	}
	p.text, p.synced = p.text[:n], n
	return api.OK
}

// crash leaves of what is not synced so many bytes.
func (p *plate) crash(keep int) {
	keep = min(max(keep, 0), len(p.text)-p.synced)
	p.text = p.text[:p.synced+keep]
	p.synced, p.left, p.dark = len(p.text), 0, false
}

// arm lets power go at the n-th call.
func (p *plate) arm(n int) {
	if !p.dark {
		p.left = max(n, 0)
	}
}

// is: does d tell what the plate has?
func (p *plate) is(d *disk.Disk) bool {
	return string(d.Bytes()) == p.text && d.Size() == len(p.text) && d.Synced() == p.synced && d.Down() == p.dark
}

// Kinds of steps.
const (
	doAdd = iota
	doPublish
	doOpen // anew, behind a crash or without one
	doArm
	doArmKeys
	doCrash // of both disks, of which so many bytes stay
	doCrashOne
	doCrashKeys
	doGrow // to so many bytes of room
	doGrowKeys
)

// step is one thing that is done to a ledger or to its disks.
type step struct {
	kind, n int
	items   []string
}

func (s step) String() string {
	names := []string{"Add", "Publish", "Open", "Arm d", "Arm k", "Crash", "Crash d", "Crash k", "Grow d", "Grow k"}
	return short(fmt.Sprintf("%s(%d %q)", names[s.kind], s.n, s.items))
}

// add tells a step.
func add(items ...string) step { return step{kind: doAdd, items: items} }

// account is what the chapters say of a ledger and of its disks, kept as rows of items and numbers of keys.
type account struct {
	d, k   plate
	rows   [][]string // the batches that were put on d
	held   []string   // the ledger's leaves
	next   int        // the ledger's next key
	last   []string   // the leaves of the checkpoint that was published last
	key    int        // its key; -1: none
	isOpen bool
}

// open tells what Open answers.
func (a *account) open() api.Errno {
	a.isOpen = false
	if why := a.k.cut(len(a.k.text) / keySize * keySize); why != api.OK {
		return why
	}
	for len(written(a.rows...)) > len(a.d.text) {
		a.rows = a.rows[:len(a.rows)-1]
	}
	if why := a.d.cut(len(written(a.rows...))); why != api.OK {
		return why
	}
	a.isOpen, a.held, a.next, a.last, a.key = true, slices.Concat(a.rows...), len(a.k.text)/keySize, nil, -1
	return api.OK
}

// add tells what Add answers.
func (a *account) add(items []string) ([]int, api.Errno) {
	numbers, fresh := mustAdd(a.held, items)
	if len(a.held)+len(fresh) > most {
		return nil, api.ErrLong
	}
	if len(fresh) == 0 {
		return numbers, api.OK
	}
	if len(batch(fresh...)) > longest {
		return nil, api.ErrLong
	}
	was := len(a.d.text)
	why := a.d.add(written(fresh))
	if len(a.d.text) > was {
		a.rows = append(a.rows[:len(a.rows):len(a.rows)], fresh)
	}
	if why != api.OK {
		return nil, why
	}
	a.held = slices.Concat(a.held, fresh)
	return numbers, api.OK
}

// publish tells what Publish answers; the checkpoint is the last one.
func (a *account) publish() api.Errno {
	if a.key >= 0 && len(a.last) == len(a.held) {
		return api.OK
	}
	if a.next == allKeys {
		return api.ErrUsed
	}
	if why := a.k.add(used(a.next + 1)[keySize*a.next:]); why != api.OK {
		return why
	}
	a.last, a.key, a.next = a.held, a.next, a.next+1
	return api.OK
}

// does notes what the step does, and tells what it must answer.
func (a *account) does(s step) ([]int, api.Errno) {
	switch s.kind {
	case doAdd:
		return a.add(s.items)
	case doPublish:
		return nil, a.publish()
	case doOpen:
		return nil, a.open()
	case doArm:
		a.d.arm(s.n)
	case doArmKeys:
		a.k.arm(s.n)
	case doCrash, doCrashOne, doCrashKeys:
		if s.kind != doCrashKeys {
			a.d.crash(s.n)
		}
		if s.kind != doCrashOne {
			a.k.crash(s.n)
		}
		a.isOpen = false
	case doGrow:
		a.d.limit = len(a.d.text) + s.n
	case doGrowKeys:
		a.k.limit = len(a.k.text) + s.n
	}
	return nil, api.OK
}

// bench is two disks, the ledger that was opened on them last, and its account.
type bench struct {
	t    *testing.T
	name string
	by   *signer
	d, k *disk.Disk
	l    *ledger.Ledger // nil: none is open
	a    *account
	done []step
}

// benchOf tells a bench with new disks of these limits, and a ledger opened on them.
func benchOf(t *testing.T, name string, by *signer, limit, keyLimit int) *bench {
	t.Helper()
	b := &bench{t: t, name: name, by: by, d: made(t, limit), k: made(t, keyLimit)}
	b.a = &account{d: plate{limit: limit}, k: plate{limit: keyLimit}}
	b.plays(step{kind: doOpen})
	return b
}

// fails tells a fault behind the steps that were done.
func (b *bench) fails(form string, args ...any) bool {
	b.t.Helper()
	last := b.done[max(len(b.done)-12, 0):]
	b.t.Errorf("%s: .. %v: %s", b.name, last, fmt.Sprintf(form, args...))
	return false
}

// plays does the steps, and holds all that is told behind each one against the account. A step that needs a ledger is left out where none is open. It tells whether all was well.
func (b *bench) plays(steps ...step) bool {
	b.t.Helper()
	for _, s := range steps {
		if b.l == nil && (s.kind == doAdd || s.kind == doPublish) {
			continue
		}
		b.done = append(b.done, s)
		numbers, want := b.a.does(s)
		if got, why := b.does(s); why != want || !slices.Equal(got, numbers) {
			return b.fails("%v, %v, want %v, %v", got, why, numbers, want)
		}
		if !b.holds() {
			return false
		}
	}
	return true
}

// does does the step on the ledger and on its disks.
func (b *bench) does(s step) ([]int, api.Errno) {
	switch s.kind {
	case doAdd:
		return b.l.Add(texts(s.items)...)
	case doPublish:
		return b.publishes()
	case doOpen:
		var why api.Errno
		b.l, why = ledger.Open(b.d, b.k, b.by.seed)
		return nil, why
	case doArm:
		b.d.Arm(s.n)
	case doArmKeys:
		b.k.Arm(s.n)
	case doCrash, doCrashOne, doCrashKeys:
		if s.kind != doCrashKeys {
			b.d.Crash(s.n)
		}
		if s.kind != doCrashOne {
			b.k.Crash(s.n)
		}
		b.l = nil
	case doGrow:
		b.d.Grow(b.d.Size() + s.n)
	case doGrowKeys:
		b.k.Grow(b.k.Size() + s.n)
	}
	return nil, api.OK
}

// publishes publishes, and holds what is told against the account, which has noted it.
func (b *bench) publishes() ([]int, api.Errno) {
	b.t.Helper()
	s, why := b.l.Publish()
	if why != api.OK && !nothing(s) || why == api.OK && !b.by.isFor(s, b.a.key, b.a.last) {
		b.fails("size %d, key %d, want size %d, key %d", s.Check.Size, s.Sig.Index, len(b.a.last), b.a.key)
	}
	return nil, why
}

// holds holds the disks and the ledger against the account.
func (b *bench) holds() bool {
	b.t.Helper()
	if !b.a.d.is(b.d) || !b.a.k.is(b.k) {
		return b.fails("the disks are %s, %s, want %+v, %+v", told(b.d), told(b.k), b.a.d, b.a.k)
	}
	if (b.l != nil) != b.a.isOpen {
		return b.fails("a ledger is open: %v, want %v", b.l != nil, b.a.isOpen)
	}
	if b.l == nil {
		return true
	}
	if fault := amiss(b.l, b.a.held); fault != "" {
		return b.fails("%s", fault)
	}
	if b.l.KeysLeft() != allKeys-b.a.next {
		return b.fails("KeysLeft %d, want %d", b.l.KeysLeft(), allKeys-b.a.next)
	}
	s, ok := b.l.Last()
	if ok != (b.a.key >= 0) || ok && !alike(s, b.by.want(b.a.key, b.a.last)) || !ok && !nothing(s) {
		return b.fails("Last: size %d, key %d, %v, want size %d, key %d", s.Check.Size, s.Sig.Index, ok, len(b.a.last), b.a.key)
	}
	return true
}

// eachRow calls f with each row of n of these steps. f tells whether to go on.
func eachRow(from []step, n int, f func([]step) bool) bool {
	row := make([]step, n)
	var fill func(at int) bool
	fill = func(at int) bool {
		if at == n {
			return f(row)
		}
		for _, s := range from {
			row[at] = s
			if !fill(at + 1) {
				return false
			}
		}
		return true
	}
	return fill(0)
}
