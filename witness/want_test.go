package witness_test

import (
	"bytes"
	"encoding/binary"
	"fmt"
	"math"
	"strings"
	"sync"
	"testing"

	"broadsheet/api"
	"broadsheet/check"
	"broadsheet/cosign"
	"broadsheet/disk"
	"broadsheet/proof"
	"broadsheet/sign"
	"broadsheet/tree"
	"broadsheet/witness"
)

// The limits, written out, so that the tests hold them: of witnesses, leaves, keys, and how many bytes the record of a checkpoint and that of a key take on their disks.
const (
	allWitnesses = 4
	most         = 256
	allKeys      = 16
	recSize      = 8 + 4 + 32
	keySize      = 8 + 1
)

const least, greatest = math.MinInt, math.MaxInt

// seedOf tells the n-th seed.
func seedOf(n int) []byte {
	seed := []byte(strings.Repeat("seed", 8))
	seed[7] = byte(n)
	return seed
}

// The seeds of the log, of another log, and of the witness.
const (
	logSeed = iota + 1
	otherSeed
	witnessSeed
)

// publics, signs and cosigs keep what was worked out once: signing is slow.
var (
	lock    sync.Mutex
	publics = map[int][]byte{}
	signs   = map[string]api.Signed{}
	cosigs  = map[string]api.Cosig{}
	roots   = map[string]string{}
)

// worked tells what stands in the map under that name, and works it out if nothing does.
func worked[K comparable, V any](in map[K]V, name K, work func() V) V {
	lock.Lock()
	v, there := in[name]
	lock.Unlock()
	if there {
		return v
	}
	v = work()
	lock.Lock()
	in[name] = v
	lock.Unlock()
	return v
}

// publicOf tells sign.Public of the n-th seed.
func publicOf(n int) []byte {
	return bytes.Clone(worked(publics, n, func() []byte { return sign.Public(seedOf(n)) }))
}

// point is a checkpoint.
type point struct {
	size int
	root string
}

func (p point) check() api.Checkpoint { return api.Checkpoint{Size: p.size, Root: []byte(p.root)} }

// pointOf tells a checkpoint as a point.
func pointOf(c api.Checkpoint) point { return point{c.Size, string(c.Root)} }

func (p point) String() string { return fmt.Sprintf("%d %.3x", p.size, p.root) }

// signedBy tells a checkpoint as the owner of that seed signs it with that key.
func signedBy(seed, key int, p point) api.Signed {
	s := worked(signs, fmt.Sprint(seed, " ", key, p.size, p.root), func() api.Signed {
		s, why := check.Sign(seedOf(seed), key, p.check())
		if why != api.OK {
			panic(fmt.Sprintf("P10.1: Sign: %v", why))
		}
		return s
	})
	return api.Signed{Check: pointOf(s.Check).check(), Sig: copyOfSig(s.Sig)}
}

// cosigOf tells what the witness of that number cosigns with that key.
func cosigOf(id, key int, p point) api.Cosig {
	return worked(cosigs, fmt.Sprint(id, " ", key, p.size, p.root), func() api.Cosig {
		g, why := cosign.Sign(seedOf(witnessSeed), key, id, p.check())
		if why != api.OK {
			panic(fmt.Sprintf("P11.1: Sign: %v", why))
		}
		return g
	})
}

// copyOfSig is s in new memory.
func copyOfSig(s api.Sig) api.Sig {
	return api.Sig{Index: s.Index, Parts: copyOfEach(s.Parts), Path: copyOfEach(s.Path)}
}

// copyOfEach is l, and each of its texts, in new memory.
func copyOfEach(l [][]byte) [][]byte {
	var all [][]byte
	for _, b := range l {
		all = append(all, bytes.Clone(b))
	}
	return all
}

// face is one of the ways in which a log may show its leaves: up to turn they are those of every other face.
type face struct {
	name   string
	turn   int
	leaves [][]byte
}

func newFace(name string, turn int) *face {
	f := &face{name: name, turn: turn}
	for i := range most {
		of := "log"
		if i >= turn {
			of = name
		}
		f.leaves = append(f.leaves, tree.Leaf([]byte(fmt.Sprint(of, i))))
	}
	return f
}

// The faces of the tests: the log as it is, one that turns off behind the second leaf, and one that is another from the beginning on.
var (
	plain = newFace("log", most)
	fork  = newFace("fork", 2)
	alien = newFace("alien", 0)
)

func faces() []*face { return []*face{plain, fork, alien} }

// at tells the checkpoint of the first n leaves.
func (f *face) at(n int) point {
	return point{n, worked(roots, fmt.Sprint(f.name, f.turn, " ", n), func() string { return string(tree.Root(f.leaves[:n])) })}
}

// signed tells it as the log signs it.
func (f *face) signed(n int) api.Signed { return signedBy(logSeed, n%allKeys, f.at(n)) }

// grow tells the growth from so many leaves to so many.
func (f *face) grow(from, to int) api.Growth {
	g, why := proof.Grow(f.leaves[:to], from)
	if why != api.OK {
		panic(fmt.Sprintf("P8.2: Grow(%d of %d): %v", from, to, why))
	}
	return g
}

// rec tells the record of a checkpoint, whether it is Right or not.
func rec(size uint32, root string) string {
	return string(binary.BigEndian.AppendUint32(nil, size)) + root
}

// recsOf tells the records of the face's checkpoints of these sizes.
func (f *face) recsOf(sizes ...int) []string {
	var all []string
	for _, n := range sizes {
		all = append(all, rec(uint32(n), f.at(n).root))
	}
	return all
}

// lie tells how these records lie on a disk.
func (f *face) lie(sizes ...int) string { return lies(f.recsOf(sizes...)...) }

// head tells the eight bytes of a length.
func head(n uint32) string {
	b := binary.BigEndian.AppendUint32(nil, n)
	return string(binary.BigEndian.AppendUint32(b, n^0xffffffff))
}

// lies tells how records lie on a disk.
func lies(recs ...string) string {
	var text strings.Builder
	for _, rec := range recs {
		text.WriteString(head(uint32(len(rec))) + rec)
	}
	return text.String()
}

// used tells how the records of the first n keys lie on a disk.
func used(n int) string {
	var text strings.Builder
	for key := range n {
		text.WriteString(lies(string([]byte{byte(key)})))
	}
	return text.String()
}

// made tells a new disk of that limit.
func made(t *testing.T, limit int) *disk.Disk {
	t.Helper()
	d, why := disk.New(limit)
	if d == nil || why != api.OK {
		t.Fatalf("P12.1: New(%d): %v, %v", limit, d, why)
	}
	return d
}

// roomy tells a new disk with as much room as may be.
func roomy(t *testing.T) *disk.Disk {
	t.Helper()
	return made(t, api.MaxDisk)
}

// holding tells a disk with these bytes, the first ones of them synced, and with room for more.
func holding(t *testing.T, text string, synced int) *disk.Disk {
	t.Helper()
	d := roomy(t)
	answers(t, "P12.1: Append", d.Append([]byte(text[:synced])), api.OK)
	answers(t, "P12.1: Sync", d.Sync(), api.OK)
	answers(t, "P12.1: Append", d.Append([]byte(text[synced:])), api.OK)
	return d
}

// kept tells a disk with these bytes, all synced.
func kept(t *testing.T, text string) *disk.Disk {
	t.Helper()
	return holding(t, text, len(text))
}

// goesDark takes power from a disk.
func goesDark(t *testing.T, d *disk.Disk) {
	t.Helper()
	d.Arm(1)
	answers(t, "P12.2: Sync where power goes", d.Sync(), api.ErrFull)
}

// grows sets how many bytes a disk has room for behind those that are on it.
func grows(t *testing.T, d *disk.Disk, room int) {
	t.Helper()
	if !d.Grow(d.Size() + room) {
		t.Errorf("P12.1: Grow by %d", room)
	}
}

// answers holds what a call answered against what it must.
func answers(t *testing.T, name string, got, want api.Errno) {
	t.Helper()
	if got != want {
		t.Errorf("%s: %v, want %v", name, got, want)
	}
}

// tells holds all that a disk tells against what it must.
func tells(t *testing.T, name string, d *disk.Disk, text string, synced int, down bool) {
	t.Helper()
	if got := string(d.Bytes()); got != text {
		t.Errorf("%s: Bytes: %q, want %q", name, short(got), short(text))
	}
	if d.Size() != len(text) || d.Synced() != synced || d.Down() != down {
		t.Errorf("%s: Size %d, Synced %d, Down %v, want %d, %d, %v", name, d.Size(), d.Synced(), d.Down(), len(text), synced, down)
	}
}

// told tells all that a disk tells.
func told(d *disk.Disk) string {
	if d == nil {
		return "none"
	}
	return fmt.Sprintf("%q %d %d %v", d.Bytes(), d.Size(), d.Synced(), d.Down())
}

// short tells few of many bytes, so that a fault's text can be read.
func short(s string) string {
	if len(s) > 80 {
		return fmt.Sprintf("%s... (%d bytes)", s[:80], len(s))
	}
	return s
}

// armedSo holds that power goes at the n-th call of the disk from now on: by Syncs, of which those ahead of it are taken.
func armedSo(t *testing.T, name string, d *disk.Disk, n int) {
	t.Helper()
	for i := 1; i < n; i++ {
		answers(t, fmt.Sprintf("%s: call %d of %d", name, i, n), d.Sync(), api.OK)
	}
	if d.Down() {
		t.Errorf("%s: power is gone ahead of call %d", name, n)
	}
	answers(t, fmt.Sprintf("%s: call %d, at which power goes", name, n), d.Sync(), api.ErrFull)
}

// opened tells the witness of that number on d and k, which must have this checkpoint and so many used keys.
func opened(t *testing.T, name string, d, k *disk.Disk, id int, last point, keys int) *witness.Witness {
	t.Helper()
	w, why := witness.Open(d, k, id, seedOf(witnessSeed), publicOf(logSeed))
	if w == nil || why != api.OK {
		t.Fatalf("%s: Open: %v, %v", name, w != nil, why)
	}
	stands(t, name+": Open", w, id, last, keys)
	return w
}

// begun tells a witness on new disks, and these.
func begun(t *testing.T, name string) (*witness.Witness, *disk.Disk, *disk.Disk) {
	t.Helper()
	d, k := roomy(t), roomy(t)
	return opened(t, name, d, k, 0, plain.at(0), 0), d, k
}

// stands holds what a witness tells of itself.
func stands(t *testing.T, name string, w *witness.Witness, id int, last point, keys int) {
	t.Helper()
	if fault := amiss(w, id, last, keys); fault != "" {
		t.Errorf("%s: %s", name, fault)
	}
}

// amiss tells what a witness tells wrongly of itself; nothing, if all is well.
func amiss(w *witness.Witness, id int, last point, keys int) string {
	if got := pointOf(w.Check()); got != last || w.ID() != id || w.KeysLeft() != allKeys-keys {
		return fmt.Sprintf("Check %v, ID %d, KeysLeft %d, want %v, %d, %d", got, w.ID(), w.KeysLeft(), last, id, allKeys-keys)
	}
	return ""
}

// cosigns holds that Cosign answers the cosignature of s's checkpoint with that key.
func cosigns(t *testing.T, name string, w *witness.Witness, s api.Signed, g api.Growth, key int) {
	t.Helper()
	got, why := w.Cosign(s, g)
	if want := cosigOf(w.ID(), key, pointOf(s.Check)); why != api.OK || !alike(got, want) {
		t.Errorf("%s: Cosign of %v from %d to %d: key %d, witness %d, %v, want key %d, witness %d", name, pointOf(s.Check), g.From, g.To, got.Sig.Index, got.Witness, why, key, want.Witness)
	}
}

// cosignsNot holds that Cosign answers why, and no cosignature.
func cosignsNot(t *testing.T, name string, w *witness.Witness, s api.Signed, g api.Growth, why api.Errno) {
	t.Helper()
	if got, told := w.Cosign(s, g); told != why || !nothing(got) {
		t.Errorf("%s: Cosign of %v from %d to %d: key %d, %d parts, %v, want none, %v", name, pointOf(s.Check), g.From, g.To, got.Sig.Index, len(got.Sig.Parts), told, why)
	}
}

// alike: are they the same in all?
func alike(a, b api.Cosig) bool { return a.Witness == b.Witness && sign.Same(a.Sig, b.Sig) }

// nothing: is g zero?
func nothing(g api.Cosig) bool {
	return g.Witness == 0 && g.Sig.Index == 0 && len(g.Sig.Parts) == 0 && len(g.Sig.Path) == 0
}

// refused holds that Open answers why, and no witness.
func refused(t *testing.T, name string, d, k *disk.Disk, a asked, why api.Errno) {
	t.Helper()
	if w, got := witness.Open(d, k, a.id, a.seed, a.log); w != nil || got != why {
		t.Errorf("%s: Open: %v, %v, want none, %v", name, w != nil, got, why)
	}
}

// asked is what Open is given beside the disks.
type asked struct {
	id        int
	seed, log []byte
}

func (a asked) String() string {
	return fmt.Sprintf("id %d, a seed of %d bytes, a log of %d", a.id, len(a.seed), len(a.log))
}

// usual is what may be given.
func usual() asked { return asked{0, seedOf(witnessSeed), publicOf(logSeed)} }

// P8.4: the faces are as the tests take them to be.
func TestFaces(t *testing.T) {
	for _, f := range faces() {
		for _, c := range [][2]int{{0, 1}, {1, 2}, {2, 3}, {3, 7}, {4, 8}, {100, 256}} {
			if !proof.CheckGrow(f.grow(c[0], c[1]), []byte(f.at(c[0]).root), []byte(f.at(c[1]).root)) {
				t.Errorf("P8.4: face %s from %d to %d", f.name, c[0], c[1])
			}
		}
	}
	if plain.at(2) != fork.at(2) || plain.at(3) == fork.at(3) || plain.at(1) == alien.at(1) || plain.at(0) != alien.at(0) {
		t.Error("the faces are not as they must be")
	}
}
