package journal_test

import (
	"bytes"
	"encoding/binary"
	"fmt"
	"slices"
	"strings"
	"testing"

	"broadsheet/api"
	"broadsheet/disk"
	"broadsheet/journal"
)

// noise tells n bytes without a plain rule.
func noise(n int) []byte {
	b := make([]byte, n)
	x := uint32(2463534242)
	for i := range b {
		x ^= x << 13
		x ^= x >> 17
		x ^= x << 5
		b[i] = byte(x >> 11)
	}
	return b
}

// head tells the eight bytes of a length, right or not.
func head(n uint32) string {
	b := binary.BigEndian.AppendUint32(nil, n)
	return string(binary.BigEndian.AppendUint32(b, n^0xffffffff))
}

// lies tells how records lie on a disk.
func lies(recs ...string) string {
	var all strings.Builder
	for _, rec := range recs {
		all.WriteString(head(uint32(len(rec))) + rec)
	}
	return all.String()
}

// made tells a new disk of that limit.
func made(t *testing.T, limit int) *disk.Disk {
	t.Helper()
	d, why := disk.New(limit)
	if d == nil || why != api.OK {
		t.Fatalf("P12.1: New(%d): %v, %v", limit, d, why)
	}
	return d
}

// holding tells a disk with these bytes, the first ones of them synced, and with room for more.
func holding(t *testing.T, all string, synced int) *disk.Disk {
	t.Helper()
	d := made(t, api.MaxDisk)
	answers(t, "P12.1: Append", d.Append([]byte(all[:synced])), api.OK)
	answers(t, "P12.1: Sync", d.Sync(), api.OK)
	answers(t, "P12.1: Append", d.Append([]byte(all[synced:])), api.OK)
	return d
}

// opened tells a journal on d, which must have these records.
func opened(t *testing.T, name string, d *disk.Disk, want ...string) *journal.Journal {
	t.Helper()
	j, got, why := journal.Open(d)
	if why != api.OK || j == nil {
		t.Fatalf("%s: Open: %v, %v", name, j, why)
	}
	same(t, name+": Open", got, want)
	counts(t, name+": Open", j, len(want))
	return j
}

// refused holds that Open answers why, and nothing else.
func refused(t *testing.T, name string, d *disk.Disk, why api.Errno) {
	t.Helper()
	if j, got, told := journal.Open(d); j != nil || len(got) > 0 || told != why {
		t.Errorf("%s: Open: %v, %d records, %v, want none, none, %v", name, j, len(got), told, why)
	}
}

// same holds records against those that they must be.
func same(t *testing.T, name string, got [][]byte, want []string) {
	t.Helper()
	if len(got) != len(want) {
		t.Errorf("%s: %d records, want %d", name, len(got), len(want))
		return
	}
	for i := range got {
		if string(got[i]) != want[i] {
			t.Errorf("%s: record %d of %d: %q, want %q", name, i, len(got), short(string(got[i])), short(want[i]))
			return
		}
	}
}

// counts holds Count against what it must be.
func counts(t *testing.T, name string, j *journal.Journal, want int) {
	t.Helper()
	if got := j.Count(); got != want {
		t.Errorf("%s: Count %d, want %d", name, got, want)
	}
}

// answers holds what a call answered against what it must.
func answers(t *testing.T, name string, got, want api.Errno) {
	t.Helper()
	if got != want {
		t.Errorf("%s: %v, want %v", name, got, want)
	}
}

// tells holds all that a disk tells against what it must.
func tells(t *testing.T, name string, d *disk.Disk, all string, synced int, down bool) {
	t.Helper()
	if got := string(d.Bytes()); got != all {
		t.Errorf("%s: Bytes: %q, want %q", name, short(got), short(all))
	}
	if d.Size() != len(all) || d.Synced() != synced || d.Down() != down {
		t.Errorf("%s: Size %d, Synced %d, Down %v, want %d, %d, %v", name, d.Size(), d.Synced(), d.Down(), len(all), synced, down)
	}
}

// told tells all that a disk tells.
func told(d *disk.Disk) string {
	return fmt.Sprintf("%q %d %d %v", d.Bytes(), d.Size(), d.Synced(), d.Down())
}

// short tells few of many bytes, so that a fault's text can be read.
func short(s string) string {
	if len(s) > 60 {
		return s[:60] + "..."
	}
	return s
}

// spoil writes over a list and over the room behind it.
func spoil(b []byte) {
	b = b[:cap(b)]
	for i := range b {
		b[i] ^= 0xa5
	}
}

// roomy tells the same bytes with room behind them that is not zero.
func roomy(b []byte) []byte {
	all := append(bytes.Clone(b), noise(50)...)
	return all[:len(b)]
}

// reads tells what the chapter says of a disk with these bytes: its whole records, and how many bytes they take; ErrCorrupt.
func reads(all string) ([]string, int, api.Errno) {
	var recs []string
	for at := 0; ; {
		rest := all[at:]
		if len(rest) < 8 {
			return recs, at, api.OK
		}
		n := binary.BigEndian.Uint32([]byte(rest[:4]))
		if n > api.MaxRecord || rest[:8] != head(n) {
			return nil, 0, api.ErrCorrupt
		}
		if len(rest[8:]) < int(n) {
			return recs, at, api.OK
		}
		recs = append(recs, rest[8:8+n])
		at += 8 + int(n)
	}
}

// opensAsRead opens a disk with these bytes, so many of them synced, and holds all that is told against what the chapter says. It tells whether all was well.
func opensAsRead(t *testing.T, name, all string, synced int) bool {
	t.Helper()
	d := holding(t, all, synced)
	j, got, why := journal.Open(d)
	recs, size, want := reads(all)
	if want != api.OK {
		size = len(all)
	} else if size < len(all) {
		synced = size
	}
	switch {
	case why != want || (j != nil) != (want == api.OK):
		t.Errorf("%s: Open of %q: %v, %v, want %v", name, short(all), j, why, want)
	case !slices.EqualFunc(got, recs, func(b []byte, s string) bool { return string(b) == s }):
		t.Errorf("%s: Open of %q: %d records, want %d, or unlike ones", name, short(all), len(got), len(recs))
	case j != nil && j.Count() != len(recs):
		t.Errorf("%s: Open of %q: Count %d, want %d", name, short(all), j.Count(), len(recs))
	case string(d.Bytes()) != all[:size] || d.Size() != size || d.Synced() != synced || d.Down():
		t.Errorf("%s: Open of %q: the disk is %s, want %d bytes, %d synced", name, short(all), short(told(d)), size, synced)
	default:
		return true
	}
	return false
}
