package witness_test

import (
	"fmt"
	"slices"
	"testing"

	"broadsheet/api"
	"broadsheet/disk"
	"broadsheet/witness"
)

// plate is what the chapter of disks says of one, and which records were put on it.
type plate struct {
	text   string
	synced int
	limit  int
	left   int // how many calls until power goes; 0: not armed
	dark   bool
	rows   []row
}

// row is one record, and where it ends.
type row struct {
	rec string
	end int
}

// calls counts one call, and tells whether there is power behind it.
func (p *plate) calls() bool {
	p.dark = p.dark || p.left == 1
	p.left = max(p.left-1, 0)
	return !p.dark
}

// add tells what an Append of the record and then a Sync answer.
func (p *plate) add(rec string) api.Errno {
	if p.dark {
		return api.ErrFull
	}
	stays := p.calls()
	if len(p.text)+len(lies(rec)) > p.limit {
		return api.ErrFull
	}
	p.text += lies(rec)
	p.rows = append(p.rows[:len(p.rows):len(p.rows)], row{rec, len(p.text)})
	if !stays || !p.calls() {
		return api.ErrFull
	}
	p.synced = len(p.text)
	return api.OK
}

// read cuts away what is left behind the rows that are whole; false, if the Cut is refused.
func (p *plate) read() bool {
	whole := 0
	if n := len(p.rows); n > 0 {
		whole = p.rows[n-1].end
	}
	if whole == len(p.text) {
		return true
	}
	if !p.calls() {
		return false
	}
	p.text, p.synced = p.text[:whole], whole
	return true
}

// crash leaves of what is not synced so many bytes.
func (p *plate) crash(keep int) {
	keep = min(max(keep, 0), len(p.text)-p.synced)
	p.text = p.text[:p.synced+keep]
	p.synced, p.left, p.dark = len(p.text), 0, false
	p.rows = slices.DeleteFunc(slices.Clone(p.rows), func(r row) bool { return r.end > len(p.text) })
}

// arm lets power go at the n-th call.
func (p *plate) arm(n int) {
	if !p.dark {
		p.left = max(n, 0)
	}
}

// is: does d tell what the plate has?
func (p *plate) is(d *disk.Disk) bool {
	return string(d.Bytes()) == p.text && d.Size() == len(p.text) && d.Synced() == p.synced && d.Down() == p.dark
}

// told tells all that it has, in the form in which a disk's is told.
func (p *plate) told() string {
	return fmt.Sprintf("%q %d %d %v", p.text, len(p.text), p.synced, p.dark)
}

// Kinds of steps.
const (
	doShow = iota
	doOpen
	doArm
	doArmKeys
	doCrash // of both disks, of which so many bytes stay
	doCrashChecks
	doCrashKeys
	doGrow // to so many bytes of room
	doGrowKeys
)

// Kinds of growths that are shown.
const (
	right   = iota // from the last size
	none           // nothing
	past           // from one leaf above the last size
	short1         // the right one without its last hash
	turned         // the right one with a bit turned
	alienly        // the alien face's
)

// step is one thing that is done to a witness or to its disks.
type step struct {
	kind, n int // of a show n is the size
	face    *face
	seed    int // whose signature it is
	growth  int
}

func (s step) String() string {
	if s.kind == doShow {
		return fmt.Sprintf("Cosign(%s %d by %d, growth %d)", s.face.name, s.n, s.seed, s.growth)
	}
	return fmt.Sprintf("%s(%d)", []string{"", "Open", "Arm", "Arm the keys'", "Crash both", "Crash", "Crash the keys'", "Grow", "Grow the keys'"}[s.kind], s.n)
}

// show tells the step in which a checkpoint is shown as it ought to be.
func show(f *face, size int) step { return step{doShow, size, f, logSeed, right} }

// with tells the step with another growth, by with another signature.
func (s step) with(growth int) step { s.growth = growth; return s }

func (s step) by(seed int) step { s.seed = seed; return s }

// shown tells the growth that is shown to a witness whose last size this is.
func (s step) shown(last int) api.Growth {
	from, f := min(last, s.n), s.face
	switch s.growth {
	case none:
		return api.Growth{}
	case past:
		from = min(last+1, s.n)
	case alienly:
		f = alien
	}
	g := f.grow(from, s.n)
	if n := len(g.Path); n > 0 && s.growth == short1 {
		g.Path = g.Path[:n-1]
	}
	if n := len(g.Path); n > 0 && s.growth == turned {
		g.Path = copyOfEach(g.Path)
		g.Path[n/2][n] ^= 4
	}
	return g
}

// account is what the chapters say of a witness and of its disks.
type account struct {
	d, k   plate
	id     int
	isOpen bool
	last   point
	next   int // the next key
	given  int // the key by which the last one was cosigned since Open; -1: by none
}

// answer tells what a step must answer: of a show the key by which it is cosigned, or a refusal.
type answer struct {
	key int // -1: none
	of  point
	why api.Errno
}

// open tells what Open answers.
func (a *account) open() api.Errno {
	a.isOpen = false
	if !a.k.read() || !a.d.read() {
		return api.ErrFull
	}
	a.isOpen, a.next, a.given = true, len(a.k.rows), -1
	a.last = plain.at(0)
	if n := len(a.d.rows); n > 0 {
		rec := a.d.rows[n-1].rec
		a.last = point{int(rec[2])<<8 | int(rec[3]), rec[4:]}
	}
	return api.OK
}

// grown: does the growth that is shown lead from the last checkpoint to c, which is the face's? There is just one that does.
func (a *account) grown(s step, c point) bool {
	g := s.shown(a.last.size)
	if g.From != a.last.size || g.To != c.size {
		return false
	}
	from := s.face.at(g.From)
	return from == a.last && slices.EqualFunc(g.Path, s.face.grow(g.From, g.To).Path, func(a, b []byte) bool { return string(a) == string(b) })
}

// cosign tells what Cosign answers.
func (a *account) cosign(s step) answer {
	c := s.face.at(s.n)
	not := func(why api.Errno) answer { return answer{-1, point{}, why} }
	if s.seed != logSeed {
		return not(api.ErrSign)
	}
	if c.size < a.last.size {
		return not(api.ErrOld)
	}
	if c.size == a.last.size && c != a.last {
		return not(api.ErrFork)
	}
	if c.size > a.last.size {
		if !a.grown(s, c) {
			return not(api.ErrProof)
		}
		if why := a.d.add(rec(uint32(c.size), c.root)); why != api.OK {
			return not(why)
		}
		a.last, a.given = c, -1
	}
	if a.given < 0 {
		if a.next == allKeys {
			return not(api.ErrUsed)
		}
		if why := a.k.add(string([]byte{byte(a.next)})); why != api.OK {
			return not(why)
		}
		a.given = a.next
		a.next++
	}
	return answer{a.given, c, api.OK}
}

// crash crashes the disks that the step names: what was opened on one is not used behind it.
func (a *account) crash(s step) {
	if s.kind != doCrashKeys {
		a.d.crash(s.n)
	}
	if s.kind != doCrashChecks {
		a.k.crash(s.n)
	}
	a.isOpen = false
}

// does notes what the step does, and tells what it must answer.
func (a *account) does(s step) answer {
	told := answer{key: -1}
	switch s.kind {
	case doShow:
		return a.cosign(s)
	case doOpen:
		told.why = a.open()
	case doArm:
		a.d.arm(s.n)
	case doArmKeys:
		a.k.arm(s.n)
	case doCrash, doCrashChecks, doCrashKeys:
		a.crash(s)
	case doGrow:
		a.d.limit = len(a.d.text) + s.n
	case doGrowKeys:
		a.k.limit = len(a.k.text) + s.n
	}
	return told
}

// bench is two disks, the witness that was opened on them last, and their account.
type bench struct {
	t    *testing.T
	name string
	d, k *disk.Disk
	w    *witness.Witness // nil: none is open
	a    *account
	done []step
}

// benchOf tells a bench with new disks of these limits, and the witness of that number opened on them.
func benchOf(t *testing.T, name string, id, limit, keyLimit int) *bench {
	t.Helper()
	b := &bench{t: t, name: name, d: made(t, limit), k: made(t, keyLimit), a: &account{id: id, d: plate{limit: limit}, k: plate{limit: keyLimit}}}
	b.plays(step{kind: doOpen})
	return b
}

// benchHolding tells a bench with disks that hold these records and so many used keys, and the witness of that number opened on them.
func benchHolding(t *testing.T, name string, id, keys int, recs ...string) *bench {
	t.Helper()
	b := &bench{t: t, name: name, d: kept(t, lies(recs...)), k: kept(t, used(keys)), a: &account{id: id, d: plateOf(recs...), k: plateOf()}}
	for key := range keys {
		b.a.k.add(string([]byte{byte(key)}))
	}
	b.plays(step{kind: doOpen})
	return b
}

// plateOf tells a plate with much room that holds these records.
func plateOf(recs ...string) plate {
	p := plate{limit: api.MaxDisk}
	for _, rec := range recs {
		p.add(rec)
	}
	return p
}

// fails tells a fault behind the steps that were done.
func (b *bench) fails(form string, args ...any) bool {
	b.t.Helper()
	last := b.done[max(len(b.done)-14, 0):]
	b.t.Errorf("%s, witness %d: .. %v: %s", b.name, b.a.id, last, fmt.Sprintf(form, args...))
	return false
}

// plays does the steps, and holds all that is told behind each one against the account. A show is left out where no witness is open. It tells whether all was well.
func (b *bench) plays(steps ...step) bool {
	b.t.Helper()
	for _, s := range steps {
		if s.kind == doShow && b.w == nil {
			continue
		}
		b.done = append(b.done, s)
		if !b.does(s) || !b.holds() {
			return false
		}
	}
	return true
}

// does does the step on the witness and its disks, and holds what it answers against the account.
func (b *bench) does(s step) bool {
	b.t.Helper()
	last := b.a.last.size
	want := b.a.does(s)
	switch s.kind {
	case doShow:
		return b.shows(s, last, want)
	case doOpen:
		var why api.Errno
		if b.w, why = witness.Open(b.d, b.k, b.a.id, seedOf(witnessSeed), publicOf(logSeed)); why != want.why {
			return b.fails("%v, want %v", why, want.why)
		}
	case doArm:
		b.d.Arm(s.n)
	case doArmKeys:
		b.k.Arm(s.n)
	case doCrash, doCrashChecks, doCrashKeys:
		b.crashes(s)
	case doGrow:
		b.d.Grow(b.d.Size() + s.n)
	case doGrowKeys:
		b.k.Grow(b.k.Size() + s.n)
	}
	return true
}

// shows shows a checkpoint to the witness.
func (b *bench) shows(s step, last int, want answer) bool {
	b.t.Helper()
	got, why := b.w.Cosign(signedBy(s.seed, s.n%allKeys, s.face.at(s.n)), s.shown(last))
	if why != want.why {
		return b.fails("%v, want %v", why, want.why)
	}
	if want.key < 0 {
		return nothing(got) || b.fails("key %d, witness %d beside %v", got.Sig.Index, got.Witness, why)
	}
	return alike(got, cosigOf(b.a.id, want.key, want.of)) || b.fails("key %d, witness %d, want key %d of %v", got.Sig.Index, got.Witness, want.key, want.of)
}

// crashes crashes the disks that the step names.
func (b *bench) crashes(s step) {
	if s.kind != doCrashKeys {
		b.d.Crash(s.n)
	}
	if s.kind != doCrashChecks {
		b.k.Crash(s.n)
	}
	b.w = nil
}

// holds holds the disks and the witness against the account.
func (b *bench) holds() bool {
	b.t.Helper()
	if !b.a.d.is(b.d) || !b.a.k.is(b.k) {
		return b.fails("the disks are %s, %s, want %s, %s", told(b.d), told(b.k), b.a.d.told(), b.a.k.told())
	}
	if (b.w != nil) != b.a.isOpen {
		return b.fails("a witness is open: %v, want %v", b.w != nil, b.a.isOpen)
	}
	if b.w == nil {
		return true
	}
	if fault := amiss(b.w, b.a.id, b.a.last, b.a.next); fault != "" {
		return b.fails("%s", fault)
	}
	return true
}

// faceOf tells the face whose checkpoint it is.
func faceOf(p point) *face {
	for _, f := range faces() {
		if f.at(p.size) == p {
			return f
		}
	}
	panic(fmt.Sprint("no face has ", p))
}

// ends shows the last checkpoint once more, and then, behind power and room and what they bring back, a larger one: whether the last one was cosigned is told then.
func (b *bench) ends() bool {
	b.t.Helper()
	steps := []step{show(faceOf(b.a.last), b.a.last.size).with(none), {kind: doGrow, n: 9999}, {kind: doGrowKeys, n: 9999}}
	if b.a.d.dark || b.a.k.dark || b.w == nil {
		steps = append(steps, step{kind: doCrash, n: greatest}, step{kind: doOpen})
	}
	if !b.plays(steps...) {
		return false
	}
	face, n := faceOf(b.a.last), b.a.last.size
	return b.plays(show(face, n).with(none), show(face, n+1), show(face, n+1).with(past), show(face, n))
}

// eachRow calls f with each row of n of these steps. f tells whether to go on.
func eachRow(from []step, n int, f func([]step) bool) bool {
	row := make([]step, n)
	var fill func(at int) bool
	fill = func(at int) bool {
		if at == n {
			return f(row)
		}
		for _, s := range from {
			row[at] = s
			if !fill(at + 1) {
				return false
			}
		}
		return true
	}
	return fill(0)
}
