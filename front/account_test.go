package front_test

import (
	"fmt"
	"math/big"
	"slices"
	"testing"

	"broadsheet/api"
	"broadsheet/disk"
	"broadsheet/front"
	"broadsheet/ledger"
)

// plate is what the chapter of disks says of one, and which rows were put on it.
type plate struct {
	text   string
	synced int
	limit  int
	left   int // how many calls until power goes; 0: not armed
	dark   bool
	rows   []row
}

// row is one record: the items that are in it, and where it ends.
type row struct {
	items []string
	end   int
}

// calls counts one call, and tells whether there is power behind it.
func (p *plate) calls() bool {
	p.dark = p.dark || p.left == 1
	p.left = max(p.left-1, 0)
	return !p.dark
}

// add tells what an Append of the record of these items and then a Sync answer.
func (p *plate) add(record string, items []string) api.Errno {
	if p.dark {
		return api.ErrFull
	}
	stays := p.calls()
	if len(p.text)+len(record) > p.limit {
		return api.ErrFull
	}
	p.text += record
	p.rows = append(p.rows[:len(p.rows):len(p.rows)], row{items, len(p.text)})
	if !stays || !p.calls() {
		return api.ErrFull
	}
	p.synced = len(p.text)
	return api.OK
}

// read tells the items of the rows that are whole, and cuts away what is left behind them; false, if the Cut is refused.
func (p *plate) read() ([]string, bool) {
	var all []string
	whole := 0
	for _, r := range p.rows {
		if r.end <= len(p.text) {
			all, whole = append(all, r.items...), r.end
		}
	}
	if whole == len(p.text) {
		return all, true
	}
	if !p.calls() {
		return nil, false
	}
	p.text, p.synced = p.text[:whole], whole
	return all, true
}

// crash leaves of what is not synced so many bytes.
func (p *plate) crash(keep int) {
	keep = min(max(keep, 0), len(p.text)-p.synced)
	p.text = p.text[:p.synced+keep]
	p.synced, p.left, p.dark = len(p.text), 0, false
	p.rows = slices.DeleteFunc(slices.Clone(p.rows), func(r row) bool { return r.end > len(p.text) })
}

// arm lets power go at the n-th call.
func (p *plate) arm(n int) {
	if !p.dark {
		p.left = max(n, 0)
	}
}

// is: does d tell what the plate has?
func (p *plate) is(d *disk.Disk) bool {
	return string(d.Bytes()) == p.text && d.Size() == len(p.text) && d.Synced() == p.synced && d.Down() == p.dark
}

// told tells all that it has, in the form in which a disk's is told.
func (p *plate) told() string {
	return fmt.Sprintf("%q %d %d %v", p.text, len(p.text), p.synced, p.dark)
}

// Kinds of steps.
const (
	doSubmit = iota
	doStep
	doLog    // items are added to the ledger by its own Add
	doOpen   // the front anew, and the ledger ahead of it, if none is open
	doReopen // both anew
	doArm
	doArmLog
	doCrash // of both disks, of which so many bytes stay
	doCrashFront
	doCrashLog
	doGrow // to so many bytes of room
	doGrowLog
)

// step is one thing that is done to a front, to its ledger or to their disks.
type step struct {
	kind, n int // of a Submit and a Step n is the time
	items   []string
}

func (s step) String() string {
	names := []string{"Submit", "Step", "Add", "Open", "Open both", "Arm", "Arm the ledger's", "Crash both", "Crash", "Crash the ledger's", "Grow", "Grow the ledger's"}
	return fmt.Sprintf("%s(%s %d)", names[s.kind], numbers(s.items), s.n)
}

// submit, tick and log tell a step.
func submit(text string, now int) step { return step{doSubmit, now, []string{text}} }

func tick(now int) step { return step{kind: doStep, n: now} }

func log(items ...string) step { return step{kind: doLog, items: items} }

// waiter is one who waits.
type waiter struct {
	text  string
	since *big.Int // nil: since ever
}

// account is what the chapters say of a front, of its ledger and of their disks, kept as rows of items.
type account struct {
	setting
	d        plate
	receipts []string
	waits    []waiter
	isOpen   bool
	*logbook
}

// logbook is what they say of the ledger, which may be another front's, too.
type logbook struct {
	ld        plate
	leaves    []string
	hasLedger bool
}

// answer tells what a step must answer: of a Submit an answer, of a Step and of an Add numbers, of all but a Submit a refusal or none.
type answer struct {
	api.Answer
	numbers string
	why     api.Errno
}

// open tells what Open answers, and ahead of it the ledger's, if none is open.
func (a *account) open() api.Errno {
	a.isOpen = false
	var ok bool
	if !a.hasLedger {
		if a.leaves, ok = a.ld.read(); !ok {
			return api.ErrFull
		}
		a.hasLedger = true
	}
	if a.receipts, ok = a.d.read(); !ok {
		return api.ErrFull
	}
	a.isOpen, a.waits = true, nil
	for _, text := range a.receipts {
		if !slices.Contains(a.leaves, text) {
			a.waits = append(a.waits, waiter{text: text})
		}
	}
	return api.OK
}

// submit tells what Submit answers.
func (a *account) submit(text string, now int) api.Answer {
	if !isManifest(text) {
		return api.Answer{Kind: api.Invalid}
	}
	if leaf := slices.Index(a.leaves, text); leaf >= 0 {
		return api.Answer{Kind: api.Duplicate, Number: leaf}
	}
	if slices.ContainsFunc(a.waits, func(w waiter) bool { return w.text == text }) {
		return api.Answer{Kind: api.Accepted, Number: slices.Index(a.receipts, text)}
	}
	if len(a.waits) >= a.room || a.d.add(lies(text), []string{text}) != api.OK {
		return api.Answer{Kind: api.Busy}
	}
	a.receipts = append(a.receipts, text)
	w := waiter{text: text}
	if now != least { // the least number is the time of those that wait since ever
		w.since = big.NewInt(int64(now))
	}
	a.waits = append(a.waits, w)
	return api.Answer{Kind: api.Accepted, Number: len(a.receipts) - 1}
}

// due tells whether there is to be a batch.
func (a *account) due(now int) bool {
	if len(a.waits) == 0 || len(a.waits) >= a.size || a.waits[0].since == nil {
		return len(a.waits) > 0
	}
	end := new(big.Int).Add(a.waits[0].since, big.NewInt(int64(a.wait)))
	return end.Cmp(big.NewInt(int64(now))) <= 0
}

// log tells what the ledger's Add answers.
func (a *account) log(items []string) (string, api.Errno) {
	var numbers []int
	leaves := slices.Clone(a.leaves)
	for _, text := range items {
		if !slices.Contains(leaves, text) {
			leaves = append(leaves, text)
		}
		numbers = append(numbers, slices.Index(leaves, text))
	}
	if len(leaves) > most {
		return "[]", api.ErrLong
	}
	if fresh := leaves[len(a.leaves):]; len(fresh) > 0 {
		if why := a.ld.add(written(fresh), fresh); why != api.OK {
			return "[]", why
		}
	}
	a.leaves = leaves
	return fmt.Sprint(numbers), api.OK
}

// step tells what Step answers.
func (a *account) step(now int) (string, api.Errno) {
	if !a.due(now) {
		return "[]", api.OK
	}
	n := min(a.size, len(a.waits))
	var items []string
	for _, w := range a.waits[:n] {
		items = append(items, w.text)
	}
	told, why := a.log(items)
	if why == api.OK {
		a.waits = a.waits[n:]
		return told, why
	}
	for i := range n {
		a.waits[i].since = nil
	}
	return told, why
}

// crash crashes the disks that the step names: what was opened on one is not used behind it, and a front not without its ledger.
func (a *account) crash(s step) {
	if s.kind != doCrashLog {
		a.d.crash(s.n)
	}
	if s.kind != doCrashFront {
		a.ld.crash(s.n)
		a.hasLedger = false
	}
	a.isOpen = false
}

// does notes what the step does, and tells what it must answer.
func (a *account) does(s step) answer {
	told := answer{numbers: "[]"}
	switch s.kind {
	case doSubmit:
		told.Answer = a.submit(s.items[0], s.n)
	case doStep:
		told.numbers, told.why = a.step(s.n)
	case doLog:
		told.numbers, told.why = a.log(s.items)
	case doReopen:
		a.hasLedger = false
		told.why = a.open()
	case doOpen:
		told.why = a.open()
	case doArm:
		a.d.arm(s.n)
	case doArmLog:
		a.ld.arm(s.n)
	case doCrash, doCrashFront, doCrashLog:
		a.crash(s)
	case doGrow:
		a.d.limit = len(a.d.text) + s.n
	case doGrowLog:
		a.ld.limit = len(a.ld.text) + s.n
	}
	return told
}

// bench is two disks, the ledger and the front that were opened on them last, and their account.
type bench struct {
	t    *testing.T
	name string
	d    *disk.Disk
	f    *front.Front // nil: none is open
	a    *account
	done []step
	*logBench
}

// logBench is a ledger and its disks, which may be another front's, too.
type logBench struct {
	ld *disk.Disk
	k  *disk.Disk     // of its keys: no front has to do with it
	l  *ledger.Ledger // nil: none is open
}

// benchOf tells a bench with new disks of these limits, and a front opened on them.
func benchOf(t *testing.T, name string, s setting, limit, logLimit int) *bench {
	t.Helper()
	b := &bench{t: t, name: name, d: made(t, limit), logBench: &logBench{ld: made(t, logLimit), k: made(t, 0)}}
	b.a = &account{setting: s, d: plate{limit: limit}, logbook: &logbook{ld: plate{limit: logLimit}}}
	b.plays(step{kind: doOpen})
	return b
}

// beside tells a bench with a new disk of that limit, and a front opened on it and on b's ledger.
func (b *bench) beside(name string, s setting, limit int) *bench {
	b.t.Helper()
	other := &bench{t: b.t, name: name, d: made(b.t, limit), logBench: b.logBench}
	other.a = &account{setting: s, d: plate{limit: limit}, logbook: b.a.logbook}
	other.plays(step{kind: doOpen})
	return other
}

// fails tells a fault behind the steps that were done.
func (b *bench) fails(form string, args ...any) bool {
	b.t.Helper()
	last := b.done[max(len(b.done)-14, 0):]
	b.t.Errorf("%s, %+v: .. %v: %s", b.name, b.a.setting, last, fmt.Sprintf(form, args...))
	return false
}

// may: can the step be done now? A Submit and a Step need a front, and an Add a ledger.
func (b *bench) may(s step) bool {
	switch s.kind {
	case doSubmit, doStep:
		return b.f != nil
	case doLog:
		return b.l != nil
	}
	return true
}

// plays does the steps, and holds all that is told behind each one against the account. Those that can't be done are left out. It tells whether all was well.
func (b *bench) plays(steps ...step) bool {
	b.t.Helper()
	for _, s := range steps {
		if !b.may(s) {
			continue
		}
		b.done = append(b.done, s)
		want := b.a.does(s)
		if got := b.does(s); got != want {
			return b.fails("%+v, want %+v", got, want)
		}
		if !b.holds() {
			return false
		}
	}
	return true
}

// does does the step on the front, the ledger and their disks.
func (b *bench) does(s step) answer {
	told := answer{numbers: "[]"}
	var got []int
	switch s.kind {
	case doSubmit:
		told.Answer = b.f.Submit([]byte(s.items[0]), s.n)
	case doStep:
		got, told.why = b.f.Step(s.n)
	case doLog:
		got, told.why = b.l.Add(bytesOf(s.items)...)
	case doReopen:
		b.l = nil
		told.why = b.opens()
	case doOpen:
		told.why = b.opens()
	case doArm:
		b.d.Arm(s.n)
	case doArmLog:
		b.ld.Arm(s.n)
	case doCrash, doCrashFront, doCrashLog:
		b.crashes(s)
	case doGrow:
		b.d.Grow(b.d.Size() + s.n)
	case doGrowLog:
		b.ld.Grow(b.ld.Size() + s.n)
	}
	told.numbers = fmt.Sprint(got)
	return told
}

// opens opens the front, and ahead of it the ledger, if none is open.
func (b *bench) opens() api.Errno {
	var why api.Errno
	b.f = nil
	if b.l == nil {
		if b.l, why = ledger.Open(b.ld, b.k, seedOf(1)); why != api.OK {
			return why
		}
	}
	b.f, why = front.Open(b.d, b.l, b.a.room, b.a.size, b.a.wait)
	return why
}

// crashes crashes the disks that the step names.
func (b *bench) crashes(s step) {
	if s.kind != doCrashLog {
		b.d.Crash(s.n)
	}
	if s.kind != doCrashFront {
		b.ld.Crash(s.n)
		b.l = nil
	}
	b.f = nil
}

// holds holds the disks, the ledger and the front against the account.
func (b *bench) holds() bool {
	b.t.Helper()
	if !b.a.d.is(b.d) || !b.a.ld.is(b.ld) || b.k.Size() != 0 {
		return b.fails("the disks are %s, %s, want %s, %s", told(b.d), told(b.ld), b.a.d.told(), b.a.ld.told())
	}
	if (b.f != nil) != b.a.isOpen || (b.l != nil) != b.a.hasLedger {
		return b.fails("a front is open: %v, a ledger: %v, want %v, %v", b.f != nil, b.l != nil, b.a.isOpen, b.a.hasLedger)
	}
	if b.l != nil && !slices.Equal(leavesOf(b.l), b.a.leaves) {
		return b.fails("the ledger has %s, want %s", numbers(leavesOf(b.l)), numbers(b.a.leaves))
	}
	if b.f == nil {
		return true
	}
	if fault := amiss(b.f, len(b.a.waits), b.a.receipts); fault != "" {
		return b.fails("%s", fault)
	}
	return true
}

// drains brings power and room back and steps until nothing waits: what waited, and in which order, the ledger tells then.
func (b *bench) drains() bool {
	b.t.Helper()
	steps := []step{{kind: doGrow, n: 9999}, {kind: doGrowLog, n: 9999}}
	if b.a.d.dark || b.a.ld.dark || b.f == nil {
		steps = append(steps, step{kind: doCrash, n: greatest}, step{kind: doOpen})
	}
	if !b.plays(steps...) {
		return false
	}
	for n := len(b.a.waits); n > 0 && len(b.a.waits) > 0; n-- {
		if !b.plays(tick(greatest)) {
			return false
		}
	}
	return b.plays(tick(greatest))
}

// eachRow calls f with each row of n of these steps. f tells whether to go on.
func eachRow(from []step, n int, f func([]step) bool) bool {
	row := make([]step, n)
	var fill func(at int) bool
	fill = func(at int) bool {
		if at == n {
			return f(row)
		}
		for _, s := range from {
			row[at] = s
			if !fill(at + 1) {
				return false
			}
		}
		return true
	}
	return fill(0)
}
