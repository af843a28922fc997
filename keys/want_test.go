package keys_test

import (
	"encoding/binary"
	"fmt"
	"strings"
	"testing"

	"broadsheet/api"
	"broadsheet/disk"
	"broadsheet/keys"
)

// all is how many keys there are, and size how many bytes the record of one takes: written out, so that the tests hold them.
const (
	all  = 16
	size = 9
)

// head tells the eight bytes of a length.
func head(n uint32) string {
	b := binary.BigEndian.AppendUint32(nil, n)
	return string(binary.BigEndian.AppendUint32(b, n^0xffffffff))
}

// lies tells how records lie on a disk.
func lies(recs ...string) string {
	var text strings.Builder
	for _, rec := range recs {
		text.WriteString(head(uint32(len(rec))) + rec)
	}
	return text.String()
}

// record tells the record of a key.
func record(key int) string { return string([]byte{byte(key)}) }

// first tells the records of the first n keys.
func first(n int) []string {
	recs := make([]string, n)
	for key := range recs {
		recs[key] = record(key)
	}
	return recs
}

// used tells how the records of the first n keys lie on a disk.
func used(n int) string { return lies(first(n)...) }

// made tells a new disk of that limit.
func made(t *testing.T, limit int) *disk.Disk {
	t.Helper()
	d, why := disk.New(limit)
	if d == nil || why != api.OK {
		t.Fatalf("P12.1: New(%d): %v, %v", limit, d, why)
	}
	return d
}

// holding tells a disk with these bytes, the first ones of them synced, and with room for more.
func holding(t *testing.T, text string, synced int) *disk.Disk {
	t.Helper()
	d := made(t, api.MaxDisk)
	answers(t, "P12.1: Append", d.Append([]byte(text[:synced])), api.OK)
	answers(t, "P12.1: Sync", d.Sync(), api.OK)
	answers(t, "P12.1: Append", d.Append([]byte(text[synced:])), api.OK)
	return d
}

// dark tells a disk with these bytes, synced, without power.
func dark(t *testing.T, text string) *disk.Disk {
	t.Helper()
	d := holding(t, text, len(text))
	goesDark(t, d)
	return d
}

// goesDark takes power from a disk.
func goesDark(t *testing.T, d *disk.Disk) {
	t.Helper()
	d.Arm(1)
	answers(t, "P12.2: Sync where power goes", d.Sync(), api.ErrFull)
}

// opened tells a box on d, of which next must be the next key.
func opened(t *testing.T, name string, d *disk.Disk, next int) *keys.Box {
	t.Helper()
	b, why := keys.Open(d)
	if why != api.OK || b == nil {
		t.Fatalf("%s: Open: %v, %v", name, b, why)
	}
	stands(t, name+": Open", b, next)
	return b
}

// refused holds that Open answers why, and no box.
func refused(t *testing.T, name string, d *disk.Disk, why api.Errno) {
	t.Helper()
	if b, told := keys.Open(d); b != nil || told != why {
		t.Errorf("%s: Open: %v, %v, want none, %v", name, b, told, why)
	}
}

// stands holds what a box tells against the key that must be the next one.
func stands(t *testing.T, name string, b *keys.Box, next int) {
	t.Helper()
	if b.Next() != next || b.Left() != all-next {
		t.Errorf("%s: Next %d, Left %d, want %d, %d", name, b.Next(), b.Left(), next, all-next)
	}
}

// takes holds that Take tells this key, and that the next one is one more.
func takes(t *testing.T, name string, b *keys.Box, key int) {
	t.Helper()
	if got, why := b.Take(); got != key || why != api.OK {
		t.Errorf("%s: Take: %d, %v, want %d", name, got, why, key)
	}
	stands(t, name+": Take", b, key+1)
}

// takesNone holds that Take answers why and the key 0, and that the next key stays.
func takesNone(t *testing.T, name string, b *keys.Box, why api.Errno, next int) {
	t.Helper()
	if got, told := b.Take(); got != 0 || told != why {
		t.Errorf("%s: Take: %d, %v, want 0, %v", name, got, told, why)
	}
	stands(t, name+": refused Take", b, next)
}

// answers holds what a call answered against what it must.
func answers(t *testing.T, name string, got, want api.Errno) {
	t.Helper()
	if got != want {
		t.Errorf("%s: %v, want %v", name, got, want)
	}
}

// tells holds all that a disk tells against what it must.
func tells(t *testing.T, name string, d *disk.Disk, text string, synced int, down bool) {
	t.Helper()
	if got := string(d.Bytes()); got != text {
		t.Errorf("%s: Bytes: %q, want %q", name, short(got), short(text))
	}
	if d.Size() != len(text) || d.Synced() != synced || d.Down() != down {
		t.Errorf("%s: Size %d, Synced %d, Down %v, want %d, %d, %v", name, d.Size(), d.Synced(), d.Down(), len(text), synced, down)
	}
}

// told tells all that a disk tells.
func told(d *disk.Disk) string {
	return fmt.Sprintf("%q %d %d %v", d.Bytes(), d.Size(), d.Synced(), d.Down())
}

// short tells few of many bytes, so that a fault's text can be read.
func short(s string) string {
	if len(s) > 60 {
		return s[:60] + "..."
	}
	return s
}

// armedSo holds that power goes at the n-th call of the disk from now on: by Syncs, of which those ahead of it are taken.
func armedSo(t *testing.T, name string, d *disk.Disk, n int) {
	t.Helper()
	for i := 1; i < n; i++ {
		answers(t, fmt.Sprintf("%s: call %d of %d", name, i, n), d.Sync(), api.OK)
	}
	if d.Down() {
		t.Errorf("%s: power is gone ahead of call %d", name, n)
	}
	answers(t, fmt.Sprintf("%s: call %d, at which power goes", name, n), d.Sync(), api.ErrFull)
	if !d.Down() {
		t.Errorf("%s: power is there behind call %d", name, n)
	}
}

// torn tells what may be left of a last record, of a key's and of others.
func torn() []string {
	rest := []string{"x", "\xff\xff\xff\xff\xff\xff\xff", head(3) + "ab", head(65535) + "abc", head(0)[:7]}
	for n := 1; n < size; n++ {
		rest = append(rest, lies(record(7))[:n])
	}
	return rest
}

// noLengths tells bytes at which journal.Open is ErrCorrupt.
func noLengths() []string {
	return []string{"12345678", "\x00\x00\x00\x00\x00\x00\x00\x00", head(1)[:7] + "\xff", head(65536), head(65536) + "ab", "\xff\xff\xff\xff\xff\xff\xff\xff\x00"}
}

// wrong tells records that may not be that of this key: of one byte each other one, of none, of two, of many.
func wrong(key int) []string {
	recs := []string{"", strings.Repeat(record(key), 65535), string(make([]byte, 300))}
	for n := range 256 {
		if n != key {
			recs = append(recs, record(n))
		}
	}
	for _, other := range []int{0, key, key + 1, key ^ 255} {
		recs = append(recs, record(key)+record(other), record(other)+record(key))
	}
	return append(recs, record(key)+record(key+1)+record(key+2), fmt.Sprint(key)+"th")
}
