package ledger_test

import (
	"encoding/binary"
	"fmt"
	"slices"
	"strings"
	"testing"

	"broadsheet/api"
	"broadsheet/check"
	"broadsheet/disk"
	"broadsheet/ledger"
	"broadsheet/sign"
	"broadsheet/tree"
)

// The limits, written out, so that the tests hold them: leaves, keys, bytes of a record, bytes that the record of a key takes on its disk.
const (
	most    = 256
	allKeys = 16
	longest = 65535
	keySize = 9
)

// seedOf tells the n-th seed.
func seedOf(n int) []byte {
	seed := []byte(strings.Repeat("seed", 8))
	seed[7] = byte(n)
	return seed
}

// head tells the eight bytes of a length.
func head(n uint32) string {
	b := binary.BigEndian.AppendUint32(nil, n)
	return string(binary.BigEndian.AppendUint32(b, n^0xffffffff))
}

// lies tells how records lie on a disk.
func lies(recs ...string) string {
	var text strings.Builder
	for _, rec := range recs {
		text.WriteString(head(uint32(len(rec))) + rec)
	}
	return text.String()
}

// counted tells a record with this count, and then these items, whether they are so many or not.
func counted(count uint32, items ...string) string {
	b := binary.BigEndian.AppendUint32(nil, count)
	for _, item := range items {
		b = binary.BigEndian.AppendUint16(b, uint16(len(item)))
		b = append(b, item...)
	}
	return string(b)
}

// batch tells the record of these items.
func batch(items ...string) string { return counted(uint32(len(items)), items...) }

// written tells how these batches lie on a disk.
func written(rows ...[]string) string {
	var text strings.Builder
	for _, row := range rows {
		text.WriteString(lies(batch(row...)))
	}
	return text.String()
}

// used tells how the records of the first n keys lie on a disk.
func used(n int) string {
	var text strings.Builder
	for key := range n {
		text.WriteString(lies(string([]byte{byte(key)})))
	}
	return text.String()
}

// named tells n items, from the number from on.
func named(from, n int) []string {
	items := make([]string, n)
	for i := range items {
		items[i] = fmt.Sprint("item", from+i)
	}
	return items
}

// alone tells each item as a batch of its own.
func alone(items []string) [][]string {
	rows := make([][]string, len(items))
	for i, item := range items {
		rows[i] = []string{item}
	}
	return rows
}

// texts tells items as they are handed in.
func texts(items []string) [][]byte {
	list := make([][]byte, len(items))
	for i, item := range items {
		list[i] = []byte(item)
	}
	return list
}

// hashes tells tree.Leaf of each item.
func hashes(items []string) [][]byte {
	list := make([][]byte, len(items))
	for i, item := range items {
		list[i] = tree.Leaf([]byte(item))
	}
	return list
}

// rootOf tells the root over items.
func rootOf(items []string) string { return string(tree.Root(hashes(items))) }

// made tells a new disk of that limit.
func made(t *testing.T, limit int) *disk.Disk {
	t.Helper()
	d, why := disk.New(limit)
	if d == nil || why != api.OK {
		t.Fatalf("P12.1: New(%d): %v, %v", limit, d, why)
	}
	return d
}

// roomy tells a new disk with as much room as may be.
func roomy(t *testing.T) *disk.Disk {
	t.Helper()
	return made(t, api.MaxDisk)
}

// holding tells a disk with these bytes, the first ones of them synced, and with room for more.
func holding(t *testing.T, text string, synced int) *disk.Disk {
	t.Helper()
	d := roomy(t)
	answers(t, "P12.1: Append", d.Append([]byte(text[:synced])), api.OK)
	answers(t, "P12.1: Sync", d.Sync(), api.OK)
	answers(t, "P12.1: Append", d.Append([]byte(text[synced:])), api.OK)
	return d
}

// kept tells a disk with these bytes, all synced.
func kept(t *testing.T, text string) *disk.Disk {
	t.Helper()
	return holding(t, text, len(text))
}

// goesDark takes power from a disk.
func goesDark(t *testing.T, d *disk.Disk) {
	t.Helper()
	d.Arm(1)
	answers(t, "P12.2: Sync where power goes", d.Sync(), api.ErrFull)
}

// answers holds what a call answered against what it must.
func answers(t *testing.T, name string, got, want api.Errno) {
	t.Helper()
	if got != want {
		t.Errorf("%s: %v, want %v", name, got, want)
	}
}

// tells holds all that a disk tells against what it must.
func tells(t *testing.T, name string, d *disk.Disk, text string, synced int, down bool) {
	t.Helper()
	if got := string(d.Bytes()); got != text {
		t.Errorf("%s: Bytes: %q, want %q", name, short(got), short(text))
	}
	if d.Size() != len(text) || d.Synced() != synced || d.Down() != down {
		t.Errorf("%s: Size %d, Synced %d, Down %v, want %d, %d, %v", name, d.Size(), d.Synced(), d.Down(), len(text), synced, down)
	}
}

// told tells all that a disk tells.
func told(d *disk.Disk) string {
	if d == nil {
		return "none"
	}
	return fmt.Sprintf("%q %d %d %v", d.Bytes(), d.Size(), d.Synced(), d.Down())
}

// short tells few of many bytes, so that a fault's text can be read.
func short(s string) string {
	if len(s) > 80 {
		return fmt.Sprintf("%s... (%d bytes)", s[:80], len(s))
	}
	return s
}

// armedSo holds that power goes at the n-th call of the disk from now on: by Syncs, of which those ahead of it are taken.
func armedSo(t *testing.T, name string, d *disk.Disk, n int) {
	t.Helper()
	for i := 1; i < n; i++ {
		answers(t, fmt.Sprintf("%s: call %d of %d", name, i, n), d.Sync(), api.OK)
	}
	if d.Down() {
		t.Errorf("%s: power is gone ahead of call %d", name, n)
	}
	answers(t, fmt.Sprintf("%s: call %d, at which power goes", name, n), d.Sync(), api.ErrFull)
}

// opened tells the ledger on d and k, which must have these leaves and so many used keys.
func opened(t *testing.T, name string, d, k *disk.Disk, items []string, keys int) *ledger.Ledger {
	t.Helper()
	l, why := ledger.Open(d, k, seedOf(1))
	if why != api.OK || l == nil {
		t.Fatalf("%s: Open: %v, %v", name, l, why)
	}
	stands(t, name+": Open", l, items)
	if s, ok := l.Last(); ok || !nothing(s) {
		t.Errorf("%s: Open: Last: %v, %v", name, s, ok)
	}
	if l.KeysLeft() != allKeys-keys {
		t.Errorf("%s: Open: KeysLeft %d, want %d", name, l.KeysLeft(), allKeys-keys)
	}
	return l
}

// begun tells a new ledger on new disks, and its disk of batches.
func begun(t *testing.T, name string) (*ledger.Ledger, *disk.Disk) {
	t.Helper()
	d := roomy(t)
	return opened(t, name, d, roomy(t), nil, 0), d
}

// with tells a ledger that has these leaves, of one batch.
func with(t *testing.T, name string, items []string) *ledger.Ledger {
	t.Helper()
	l, why := ledger.Open(roomy(t), roomy(t), seedOf(1))
	answers(t, name+": Open", why, api.OK)
	_, why = l.Add(texts(items)...)
	answers(t, name+": Add", why, api.OK)
	return l
}

// refused holds that Open answers why, and no ledger.
func refused(t *testing.T, name string, d, k *disk.Disk, seed []byte, why api.Errno) {
	t.Helper()
	if l, got := ledger.Open(d, k, seed); l != nil || got != why {
		t.Errorf("%s: Open: %v, %v, want none, %v", name, l != nil, got, why)
	}
}

// adds holds that Add of the items tells these numbers.
func adds(t *testing.T, name string, l *ledger.Ledger, items []string, numbers ...int) {
	t.Helper()
	if got, why := l.Add(texts(items)...); why != api.OK || !slices.Equal(got, numbers) {
		t.Errorf("%s: Add(%q): %v, %v, want %v", name, short(fmt.Sprint(items)), got, why, numbers)
	}
}

// addsNone holds that Add of the items answers why, and no numbers.
func addsNone(t *testing.T, name string, l *ledger.Ledger, items []string, why api.Errno) {
	t.Helper()
	if got, told := l.Add(texts(items)...); told != why || len(got) > 0 {
		t.Errorf("%s: Add(%q): %v, %v, want none, %v", name, short(fmt.Sprint(items)), got, told, why)
	}
}

// stands holds what a ledger tells of its leaves against those that it must have.
func stands(t *testing.T, name string, l *ledger.Ledger, items []string) {
	t.Helper()
	if fault := amiss(l, items); fault != "" {
		t.Errorf("%s: %s", name, fault)
	}
}

// amiss tells what a ledger tells wrongly of its leaves, which must be these; nothing, if all is well.
func amiss(l *ledger.Ledger, items []string) string {
	if l.Size() != len(items) {
		return fmt.Sprintf("Size %d, want %d", l.Size(), len(items))
	}
	if got := string(l.Root()); got != rootOf(items) {
		return fmt.Sprintf("Root %x, want %x", got, rootOf(items))
	}
	for i, item := range items {
		if b, ok := l.Entry(i); !ok || string(b) != item {
			return fmt.Sprintf("Entry(%d): %q, %v, want %q", i, short(string(b)), ok, short(item))
		}
		if n, ok := l.Find([]byte(item)); !ok || n != i {
			return fmt.Sprintf("Find(%q): %d, %v, want %d", short(item), n, ok, i)
		}
	}
	for _, i := range []int{-1, len(items), len(items) + 1} {
		if b, ok := l.Entry(i); ok || len(b) > 0 {
			return fmt.Sprintf("Entry(%d): %q, %v, want none", i, short(string(b)), ok)
		}
	}
	return ""
}

// lacks holds that none of these is a leaf.
func lacks(t *testing.T, name string, l *ledger.Ledger, items ...string) {
	t.Helper()
	for _, item := range items {
		if n, ok := l.Find([]byte(item)); ok || n != 0 {
			t.Errorf("%s: Find(%q): %d, %v, want 0, false", name, short(item), n, ok)
		}
	}
}

// nothing: is s zero?
func nothing(s api.Signed) bool {
	return s.Check.Size == 0 && len(s.Check.Root) == 0 && s.Sig.Index == 0 && len(s.Sig.Parts) == 0 && len(s.Sig.Path) == 0
}

// signer makes what a log must publish. Signing is slow: it keeps what it made.
type signer struct {
	seed, public []byte
	made         map[string]api.Signed
}

func newSigner(n int) *signer {
	return &signer{seed: seedOf(n), public: sign.Public(seedOf(n)), made: map[string]api.Signed{}}
}

// want tells the checkpoint of the items, signed with that key.
func (s *signer) want(key int, items []string) api.Signed {
	c := api.Checkpoint{Size: len(items), Root: []byte(rootOf(items))}
	name := fmt.Sprintf("%d %d %x", key, c.Size, c.Root)
	if _, there := s.made[name]; !there {
		s.made[name], _ = check.Sign(s.seed, key, c)
	}
	return s.made[name]
}

// isFor: is got the checkpoint of the items, signed with that key, and does it verify?
func (s *signer) isFor(got api.Signed, key int, items []string) bool {
	return alike(got, s.want(key, items)) && check.Verify(s.public, got)
}

// alike: are they the same in all?
func alike(a, b api.Signed) bool { return check.Same(a.Check, b.Check) && sign.Same(a.Sig, b.Sig) }

// torn tells what may be left of a last record.
func torn() []string {
	rest := []string{"x", "\xff\xff\xff\xff\xff\xff\xff", head(3) + "ab", head(longest) + "abc", head(0)[:7]}
	whole := lies(batch("torn"))
	for n := 1; n < len(whole); n++ {
		rest = append(rest, whole[:n])
	}
	return rest
}

// noLengths tells bytes at which journal.Open is ErrCorrupt.
func noLengths() []string {
	return []string{"12345678", "\x00\x00\x00\x00\x00\x00\x00\x00", head(1)[:7] + "\xff", head(65536), head(65536) + "ab", "\xff\xff\xff\xff\xff\xff\xff\xff\x00"}
}

// noBatches tells records that are no batches.
func noBatches() []string {
	recs := []string{
		"", "\x00", "\x00\x00\x00", "\x00\x00\x01", "\x01", // no count
		counted(0), counted(0, "a"), counted(0, ""), counted(0) + "a", // a count of 0
		counted(1), counted(2, "a"), counted(3, "a", "b"), counted(257, "a"), counted(1<<16, "a"), counted(1<<31, "a"), counted(1<<32 - 1), counted(1<<32-1, "a"), counted(1<<24+1, "a"), // too high
		counted(1, "a", "b"), counted(2, "a", "b", ""), counted(1, "", "a"), counted(1, "a", ""), // too low
		counted(1) + "\x00", counted(1) + "\x00\x01", counted(1) + "\x00\x02a", counted(1) + "\xff\xffabc", counted(2, "a") + "\x00\x05abcd", counted(2, "a") + "\x00", // a length past the end
		batch("a") + "b", batch("a") + "\x00", batch("a", "b") + "\x00\x00", batch("") + "a", batch("a") + batch("b"), // bytes behind
		"a", "abcd", "abcde", strings.Repeat("\xff", 100), strings.Repeat("\x00", 100), strings.Repeat("\xff", longest), strings.Repeat("\x00", longest),
		counted(1<<32-1, make([]string, 300)...),
	}
	return append(recs, batch("a", "a"), batch("", ""), batch("a", "b", "c", "a"), batch("a", "bc", "bc"))
}
