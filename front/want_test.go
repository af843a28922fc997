package front_test

import (
	"encoding/binary"
	"fmt"
	"math"
	"slices"
	"strings"
	"testing"

	"broadsheet/api"
	"broadsheet/disk"
	"broadsheet/front"
	"broadsheet/ledger"
)

// The limits, written out, so that the tests hold them: of the queue, of a batch, of the wait, of leaves.
const (
	mostRoom = 16
	mostSize = 8
	mostWait = 1000
	most     = 256
)

const least, greatest = math.MinInt, math.MaxInt

// seedOf tells the n-th seed.
func seedOf(n int) []byte {
	seed := []byte(strings.Repeat("seed", 8))
	seed[7] = byte(n)
	return seed
}

// head tells the eight bytes of a length.
func head(n uint32) string {
	b := binary.BigEndian.AppendUint32(nil, n)
	return string(binary.BigEndian.AppendUint32(b, n^0xffffffff))
}

// lies tells how records lie on a disk.
func lies(recs ...string) string {
	var text strings.Builder
	for _, rec := range recs {
		text.WriteString(head(uint32(len(rec))) + rec)
	}
	return text.String()
}

// written tells how these batches lie on a ledger's disk.
func written(rows ...[]string) string {
	var text strings.Builder
	for _, row := range rows {
		b := binary.BigEndian.AppendUint32(nil, uint32(len(row)))
		for _, item := range row {
			b = binary.BigEndian.AppendUint16(b, uint16(len(item)))
			b = append(b, item...)
		}
		text.WriteString(lies(string(b)))
	}
	return text.String()
}

// laid tells a manifest's bytes, whether it is Right or not.
func laid(name string, version uint32, firmware, notes string) string {
	b := binary.BigEndian.AppendUint16([]byte{77}, uint16(len(name)))
	b = append(b, name...)
	b = binary.BigEndian.AppendUint32(b, version)
	b = append(b, firmware...)
	b = binary.BigEndian.AppendUint16(b, uint16(len(notes)))
	return string(append(b, notes...))
}

// filled tells a text of n bytes.
func filled(n int, of string) string { return strings.Repeat(of, n/len(of)+1)[:n] }

// item tells the n-th manifest. All have one length, and from 1 on no two are the same.
func item(n int) string { return laid("pump", uint32(n), filled(32, "firmware"), "hi") }

// itemSize is how many bytes the record of an item takes.
const itemSize = 8 + 1 + 2 + 4 + 4 + 32 + 2 + 2

// items tells n manifests, from the number from on.
func items(from, n int) []string {
	list := make([]string, n)
	for i := range list {
		list[i] = item(from + i)
	}
	return list
}

// someManifests tells manifests of many forms: short, long, alike but for one byte.
func someManifests() []string {
	return []string{
		laid("a", 1, filled(32, "\x00"), ""), laid("z", 1<<32-1, filled(32, "\xff"), ""), laid(filled(20, "xyz"), 1<<31, filled(32, "f"), filled(64, "\x00\xff")),
		laid("a", 1, filled(32, "\x00"), "\x00"), laid("a", 1, filled(31, "\x00")+"\x01", ""), laid("b", 1, filled(32, "\x00"), ""), laid("a", 256, filled(32, "\x00"), ""), laid("aa", 1, filled(32, "\x00"), ""), laid("a", 1, filled(32, "M"), laid("a", 1, filled(20, "\x00"), "")),
	}
}

// noManifests tells texts that manifest.Decode refuses, each in another way.
func noManifests() []string {
	good := item(1)
	texts := []string{
		"", "rubbish", "M", "\x00", filled(8, "\x00"), filled(300, "\xff"), filled(65535, "M"), filled(70000, good),
		laid("", 1, filled(32, "f"), ""), laid(filled(21, "a"), 1, filled(32, "f"), ""), laid("Pump", 1, filled(32, "f"), ""), laid("pu mp", 1, filled(32, "f"), ""), laid("p\xc3\xa9", 1, filled(32, "f"), ""), laid("a`", 1, filled(32, "f"), ""), laid("{a", 1, filled(32, "f"), ""),
		laid("pump", 0, filled(32, "f"), "hi"), laid("pump", 1, filled(31, "f"), ""), laid("pump", 1, filled(33, "f"), ""), laid("pump", 1, "", ""), laid("pump", 1, filled(32, "f"), filled(65, "n")),
		good + "\x00", good + "x", good + good, "\x00" + good, good[1:], "L" + good[1:], "m" + good[1:], good[:2] + "\x05" + good[3:], good[:2] + "\x03" + good[3:], good[:1] + "\x01" + good[2:],
		good[:len(good)-3] + "\x01hi", good[:len(good)-3] + "\x03hi", good[:len(good)-4] + "\xff\xffhi", written([]string{good}), lies(good),
	}
	for n := range good {
		texts = append(texts, good[:n])
	}
	return texts
}

// isManifest: is it one? It is read from behind the name on, letter by letter.
func isManifest(text string) bool {
	if len(text) < 3 || text[0] != 77 {
		return false
	}
	n := int(text[1])<<8 | int(text[2])
	rest := strings.TrimLeft(text[3:], "abcdefghijklmnopqrstuvwxyz")
	letters := len(text) - 3 - len(rest) // what follows the name may begin with letters, too
	if n < 1 || n > 20 || letters < n || len(text) < 3+n+4+32+2 {
		return false
	}
	rest = text[3+n:]
	notes := rest[4+32+2:]
	return rest[:4] != "\x00\x00\x00\x00" && len(notes) <= 64 && int(rest[36])<<8|int(rest[37]) == len(notes)
}

// made tells a new disk of that limit.
func made(t *testing.T, limit int) *disk.Disk {
	t.Helper()
	d, why := disk.New(limit)
	if d == nil || why != api.OK {
		t.Fatalf("P12.1: New(%d): %v, %v", limit, d, why)
	}
	return d
}

// roomy tells a new disk with as much room as may be.
func roomy(t *testing.T) *disk.Disk {
	t.Helper()
	return made(t, api.MaxDisk)
}

// holding tells a disk with these bytes, the first ones of them synced, and with room for more.
func holding(t *testing.T, text string, synced int) *disk.Disk {
	t.Helper()
	d := roomy(t)
	answers(t, "P12.1: Append", d.Append([]byte(text[:synced])), api.OK)
	answers(t, "P12.1: Sync", d.Sync(), api.OK)
	answers(t, "P12.1: Append", d.Append([]byte(text[synced:])), api.OK)
	return d
}

// kept tells a disk with these bytes, all synced.
func kept(t *testing.T, text string) *disk.Disk {
	t.Helper()
	return holding(t, text, len(text))
}

// goesDark takes power from a disk.
func goesDark(t *testing.T, d *disk.Disk) {
	t.Helper()
	d.Arm(1)
	answers(t, "P12.2: Sync where power goes", d.Sync(), api.ErrFull)
}

// grows sets how many bytes a disk has room for behind those that are on it.
func grows(t *testing.T, d *disk.Disk, room int) {
	t.Helper()
	if !d.Grow(d.Size() + room) {
		t.Errorf("P12.1: Grow by %d", room)
	}
}

// answers holds what a call answered against what it must.
func answers(t *testing.T, name string, got, want api.Errno) {
	t.Helper()
	if got != want {
		t.Errorf("%s: %v, want %v", name, got, want)
	}
}

// tells holds all that a disk tells against what it must.
func tells(t *testing.T, name string, d *disk.Disk, text string, synced int, down bool) {
	t.Helper()
	if got := string(d.Bytes()); got != text {
		t.Errorf("%s: Bytes: %q, want %q", name, short(got), short(text))
	}
	if d.Size() != len(text) || d.Synced() != synced || d.Down() != down {
		t.Errorf("%s: Size %d, Synced %d, Down %v, want %d, %d, %v", name, d.Size(), d.Synced(), d.Down(), len(text), synced, down)
	}
}

// told tells all that a disk tells.
func told(d *disk.Disk) string {
	if d == nil {
		return "none"
	}
	return fmt.Sprintf("%q %d %d %v", d.Bytes(), d.Size(), d.Synced(), d.Down())
}

// short tells few of many bytes, so that a fault's text can be read.
func short(s string) string {
	if len(s) > 80 {
		return fmt.Sprintf("%s... (%d bytes)", s[:80], len(s))
	}
	return s
}

// numbers tells items by their numbers, so that a fault's text can be read.
func numbers(list []string) string {
	text := ""
	for _, one := range list {
		n := slices.Index(items(0, 400), one)
		if n < 0 {
			text += fmt.Sprintf(" %q", short(one))
			continue
		}
		text += fmt.Sprint(" ", n)
	}
	return "[" + strings.TrimPrefix(text, " ") + "]"
}

// armedSo holds that power goes at the n-th call of the disk from now on: by Syncs, of which those ahead of it are taken.
func armedSo(t *testing.T, name string, d *disk.Disk, n int) {
	t.Helper()
	for i := 1; i < n; i++ {
		answers(t, fmt.Sprintf("%s: call %d of %d", name, i, n), d.Sync(), api.OK)
	}
	if d.Down() {
		t.Errorf("%s: power is gone ahead of call %d", name, n)
	}
	answers(t, fmt.Sprintf("%s: call %d, at which power goes", name, n), d.Sync(), api.ErrFull)
}

// logOn tells the ledger whose batches are on that disk.
func logOn(t *testing.T, d *disk.Disk) *ledger.Ledger {
	t.Helper()
	l, why := ledger.Open(d, made(t, 0), seedOf(1))
	if l == nil || why != api.OK {
		t.Fatalf("P15.1: Open: %v", why)
	}
	return l
}

// logOf tells a ledger on a new disk that has these leaves.
func logOf(t *testing.T, leaves ...string) *ledger.Ledger {
	t.Helper()
	l := logOn(t, roomy(t))
	logs(t, l, leaves...)
	return l
}

// logs adds items to a ledger by its own Add.
func logs(t *testing.T, l *ledger.Ledger, list ...string) {
	t.Helper()
	_, why := l.Add(bytesOf(list)...)
	answers(t, "P15.1: Add", why, api.OK)
}

// bytesOf tells texts as bytes.
func bytesOf(list []string) [][]byte {
	var all [][]byte
	for _, text := range list {
		all = append(all, []byte(text))
	}
	return all
}

// setting is how a front is opened.
type setting struct{ room, size, wait int }

// opened tells the front on d and l, which must have these receipts, and so many that wait.
func opened(t *testing.T, name string, d *disk.Disk, l *ledger.Ledger, s setting, waits int, receipts ...string) *front.Front {
	t.Helper()
	f, why := front.Open(d, l, s.room, s.size, s.wait)
	if f == nil || why != api.OK {
		t.Fatalf("%s: Open: %v, %v", name, f != nil, why)
	}
	stands(t, name+": Open", f, waits, receipts...)
	return f
}

// begun tells a front with nothing on its disk, its disk, and its ledger without leaves.
func begun(t *testing.T, name string, s setting) (*front.Front, *disk.Disk, *ledger.Ledger) {
	t.Helper()
	d, l := roomy(t), logOf(t)
	return opened(t, name, d, l, s, 0), d, l
}

// refused holds that Open answers why, and no front.
func refused(t *testing.T, name string, d *disk.Disk, l *ledger.Ledger, s setting, why api.Errno) {
	t.Helper()
	if f, got := front.Open(d, l, s.room, s.size, s.wait); f != nil || got != why {
		t.Errorf("%s: Open: %v, %v, want none, %v", name, f != nil, got, why)
	}
}

// submits holds what a Submit answers against what it must.
func submits(t *testing.T, name string, f *front.Front, text string, now, kind, number int) {
	t.Helper()
	if got, want := f.Submit([]byte(text), now), (api.Answer{Kind: kind, Number: number}); got != want {
		t.Errorf("%s: Submit(%s, %d): %v, want %v", name, numbers([]string{text}), now, got, want)
	}
}

// accepts submits each of these, and holds that they have the receipts from the number from on.
func accepts(t *testing.T, name string, f *front.Front, from, now int, list ...string) {
	t.Helper()
	for i, text := range list {
		submits(t, name, f, text, now, api.Accepted, from+i)
	}
}

// steps holds that a Step tells these leaves.
func steps(t *testing.T, name string, f *front.Front, now int, leaves ...int) {
	t.Helper()
	if got, why := f.Step(now); why != api.OK || !slices.Equal(got, leaves) {
		t.Errorf("%s: Step(%d): %v, %v, want %v", name, now, got, why, leaves)
	}
}

// stepsNot holds that a Step answers why, and no leaves.
func stepsNot(t *testing.T, name string, f *front.Front, now int, why api.Errno) {
	t.Helper()
	if got, told := f.Step(now); told != why || len(got) > 0 {
		t.Errorf("%s: Step(%d): %v, %v, want none, %v", name, now, got, told, why)
	}
}

// stands holds all that a front tells of itself.
func stands(t *testing.T, name string, f *front.Front, waits int, receipts ...string) {
	t.Helper()
	if fault := amiss(f, waits, receipts); fault != "" {
		t.Errorf("%s: %s", name, fault)
	}
}

// amiss tells what a front tells wrongly of itself; nothing, if all is well.
func amiss(f *front.Front, waits int, receipts []string) string {
	if f.Waits() != waits || f.Receipts() != len(receipts) {
		return fmt.Sprintf("Waits %d, Receipts %d, want %d, %d", f.Waits(), f.Receipts(), waits, len(receipts))
	}
	for n, text := range receipts {
		if b, ok := f.Receipt(n); !ok || string(b) != text {
			return fmt.Sprintf("Receipt(%d): %s, %v, want %s", n, numbers([]string{string(b)}), ok, numbers([]string{text}))
		}
	}
	for _, n := range []int{least, -2, -1, len(receipts), len(receipts) + 1, greatest} {
		if b, ok := f.Receipt(n); ok || len(b) > 0 {
			return fmt.Sprintf("Receipt(%d): %q, %v, want none", n, short(string(b)), ok)
		}
	}
	return ""
}

// hasLeaves holds that a ledger has just these leaves.
func hasLeaves(t *testing.T, name string, l *ledger.Ledger, leaves ...string) {
	t.Helper()
	if got := leavesOf(l); !slices.Equal(got, leaves) {
		t.Errorf("%s: the ledger has %s, want %s", name, numbers(got), numbers(leaves))
	}
}

// leavesOf tells the leaves of a ledger.
func leavesOf(l *ledger.Ledger) []string {
	var all []string
	for i := range l.Size() {
		b, _ := l.Entry(i)
		all = append(all, string(b))
	}
	return all
}

// upTo tells n numbers, from the number from on.
func upTo(from, n int) []int {
	all := make([]int, n)
	for i := range all {
		all[i] = from + i
	}
	return all
}
