package keys_test

import (
	"fmt"
	"math/rand"
	"slices"
	"strings"
	"testing"

	"broadsheet/api"
	"broadsheet/disk"
	"broadsheet/journal"
	"broadsheet/keys"
)

// P14.1, R1: Open of nil.
func TestOpenOfNil(t *testing.T) {
	refused(t, "P14.1: nil", nil, api.ErrArg)
}

// P14.1: Open of a disk with nothing on it, of any limit.
func TestOpenOfNothing(t *testing.T) {
	for _, limit := range []int{0, 1, 8, 9, 144, api.MaxDisk} {
		d := made(t, limit)
		opened(t, "P14.1: nothing", d, 0)
		tells(t, "P14.1: nothing", d, "", 0, false)
	}
}

// P14.1: how the records of keys lie, by bytes that are written out.
func TestOpenOfWrittenBytes(t *testing.T) {
	const length = "\x00\x00\x00\x01\xff\xff\xff\xfe"
	opened(t, "P14.1: one", holding(t, length+"\x00", 9), 1)
	opened(t, "P14.1: three", holding(t, length+"\x00"+length+"\x01"+length+"\x02", 27), 3)
	refused(t, "P14.1: not by digits", holding(t, length+"0"+length+"1", 18), api.ErrCorrupt)
	refused(t, "P14.1: not from 1 on", holding(t, length+"\x01"+length+"\x02", 18), api.ErrCorrupt)
}

// P14.1: each number of used keys, with each number of bytes synced: the next key is as many, and the disk stays as it was.
func TestOpenOfUsedKeys(t *testing.T) {
	for n := range all + 1 {
		for synced := range len(used(n)) + 1 {
			d := holding(t, used(n), synced)
			name := fmt.Sprintf("P14.1: %d used", n)
			for range 2 {
				opened(t, name, d, n)
				tells(t, name, d, used(n), synced, false)
			}
		}
	}
}

// P14.1: more records than there are keys, each of them in its order; also so many that bytes begin anew.
func TestOpenOfTooMany(t *testing.T) {
	for _, n := range []int{17, 18, 31, 32, 33, 255, 256, 257, 272, 512, 513, 9999} {
		d := holding(t, used(n), len(used(n)))
		for range 2 {
			refused(t, fmt.Sprintf("P14.1: %d records", n), d, api.ErrCorrupt)
			tells(t, "P14.1: too many", d, used(n), len(used(n)), false)
		}
	}
}

// P14.1: one record more than there are keys, whatever it is.
func TestOpenOfOneMoreThanAll(t *testing.T) {
	for _, rec := range append(wrong(all), record(all)) {
		text := used(all) + lies(rec)
		d := holding(t, text, len(text))
		refused(t, fmt.Sprintf("P14.1: all keys and then %q", short(rec)), d, api.ErrCorrupt)
		tells(t, "P14.1: one more than all", d, text, len(text), false)
	}
}

// P14.1: a wrong record at each place, the last one and one ahead of others.
func TestOpenOfAWrongRecord(t *testing.T) {
	for key := range all {
		for _, rec := range wrong(key) {
			behind := []string{"", used(all)[size*(key+1):], used(all)[size*key:]}
			for _, rest := range behind {
				text := used(key) + lies(rec) + rest
				d := holding(t, text, len(text))
				name := fmt.Sprintf("P14.1: %q for key %d, %d bytes behind it", short(rec), key, len(rest))
				refused(t, name, d, api.ErrCorrupt)
				tells(t, name, d, text, len(text), false)
			}
		}
	}
}

// P14.1: example 2.
func TestOpenOfARecordOfTwoBytes(t *testing.T) {
	d := made(t, api.MaxDisk)
	j, _, _ := journal.Open(d)
	answers(t, "P13.2: Add", j.Add([]byte{0, 0}), api.OK)
	refused(t, "P14.1: example 2", d, api.ErrCorrupt)
}

// P14.1: the right records in another order: two of them changed with each other, one left out, one twice.
func TestOpenOfAnotherOrder(t *testing.T) {
	for n := 2; n <= all; n++ {
		for i := range n {
			for k := range i {
				recs := first(n)
				recs[i], recs[k] = recs[k], recs[i]
				refused(t, fmt.Sprintf("P14.1: %d and %d changed with each other", k, i), holding(t, lies(recs...), 0), api.ErrCorrupt)
			}
			twice := slices.Insert(first(n-1), min(i, n-1), record(max(i-1, 0)))
			refused(t, fmt.Sprintf("P14.1: %q", twice), holding(t, lies(twice...), 0), api.ErrCorrupt)
			if i < n-1 {
				out := slices.Delete(first(n), i, i+1)
				refused(t, fmt.Sprintf("P14.1: %d left out", i), holding(t, lies(out...), 0), api.ErrCorrupt)
			}
		}
	}
}

// P14.1: bytes that are no length behind each number of keys: what journal.Open refuses.
func TestOpenOfNoLength(t *testing.T) {
	for n := range all + 2 {
		for _, rest := range noLengths() {
			text := used(n) + rest
			d := holding(t, text, len(used(n)))
			refused(t, fmt.Sprintf("P14.1: %d used and %q", n, rest), d, api.ErrCorrupt)
			tells(t, "P14.1: no length", d, text, len(used(n)), false)
		}
	}
}

// P14.1: torn at each place: opened with the keys that are whole, and what is left of the last one is gone.
func TestOpenOfWhatIsTorn(t *testing.T) {
	for at := range len(used(all)) + 1 {
		for _, synced := range []int{0, at / 2, at} {
			d := holding(t, used(all)[:at], synced)
			n := at / size
			name := fmt.Sprintf("P14.1: cut off at %d", at)
			b := opened(t, name, d, n)
			if at%size > 0 {
				synced = size * n
			}
			tells(t, name, d, used(n), synced, false)
			if n < all {
				takes(t, name, b, n)
				tells(t, name, d, used(n+1), size*(n+1), false)
			}
		}
	}
}

// P14.1: other pieces of a record behind each number of keys; also behind too many: they are cut away as journal.Open does.
func TestOpenOfPieces(t *testing.T) {
	for n := range all + 3 {
		for _, rest := range torn() {
			d := holding(t, used(n)+rest, 0)
			if n <= all {
				opened(t, "P14.1: a piece behind keys", d, n)
			} else {
				refused(t, "P14.1: a piece behind too many", d, api.ErrCorrupt)
			}
			tells(t, "P14.1: a piece", d, used(n), len(used(n)), false)
		}
	}
}

// P14.1: where the Cut of a torn record is refused that is answered, ahead of what the records are, and nothing changes: power goes at it, or is gone.
func TestOpenAnswersWhatCutRefuses(t *testing.T) {
	for _, front := range []string{"", used(1), used(5), used(all), used(all + 1), lies("\x01"), lies("ab"), lies("")} {
		for _, rest := range torn() {
			text := front + rest
			armed := holding(t, text, len(front))
			armed.Arm(1)
			gone := dark(t, text)
			for range 2 {
				refused(t, "P14.1: power goes at the Cut", armed, api.ErrFull)
				tells(t, "P14.1: power goes at the Cut", armed, text, len(front), true)
				refused(t, "P14.1: without power", gone, api.ErrFull)
				tells(t, "P14.1: without power", gone, text, len(text), true)
			}
		}
	}
}

// P14.1: without power what needs no Cut is opened or refused as with it.
func TestOpenWithoutPower(t *testing.T) {
	for n := range all + 1 {
		d := dark(t, used(n))
		b := opened(t, "P14.1: without power", d, n)
		if n < all {
			takesNone(t, "P14.1: without power", b, api.ErrFull, n)
		} else {
			takesNone(t, "P14.1: without power", b, api.ErrUsed, n)
		}
		tells(t, "P14.1: without power", d, used(n), len(used(n)), true)
	}
	for _, text := range []string{lies("\x01"), lies("ab"), lies(""), used(17), used(2) + "12345678"} {
		d := dark(t, text)
		refused(t, "P14.1: without power", d, api.ErrCorrupt)
		tells(t, "P14.1: corrupt, without power", d, text, len(text), true)
	}
}

// mustOpen tells what the chapter says of records: which key is next, or ErrCorrupt.
func mustOpen(records [][]byte) (int, api.Errno) {
	text := ""
	for _, rec := range records {
		text += lies(string(rec))
	}
	for n := range all + 1 {
		if text == used(n) {
			return n, api.OK
		}
	}
	return 0, api.ErrCorrupt
}

// opensAsJournal holds Open of one disk against what journal.Open does to another one that is the same, and against what its records are. It tells whether all was well.
func opensAsJournal(t *testing.T, name string, one, other *disk.Disk) bool {
	t.Helper()
	b, why := keys.Open(one)
	_, records, want := journal.Open(other)
	next := 0
	if want == api.OK {
		next, want = mustOpen(records)
	}
	switch {
	case why != want || (b != nil) != (want == api.OK):
		t.Errorf("%s: Open: %v, %v, want %v", name, b, why, want)
	case b != nil && (b.Next() != next || b.Left() != all-next):
		t.Errorf("%s: Next %d, Left %d, want %d", name, b.Next(), b.Left(), next)
	case told(one) != told(other):
		t.Errorf("%s: the disk is %s, want %s", name, short(told(one)), short(told(other)))
	default:
		return true
	}
	return false
}

// anyText tells bytes for a disk: keys, and then what may be wrong.
func anyText(r *rand.Rand) string {
	text := used(r.Intn(all + 3))
	odd := []string{"", lies(""), lies("ab"), lies(record(r.Intn(20))), used(1 + r.Intn(3)), "12345678"}
	text += odd[r.Intn(len(odd))] + odd[r.Intn(len(odd))]
	if r.Intn(2) == 0 {
		text = text[:r.Intn(len(text)+1)]
	}
	b := []byte(text)
	if len(b) > 0 && r.Intn(4) == 0 {
		b[r.Intn(len(b))] = byte(r.Intn(256))
	}
	return string(b)
}

// P14.1, W5: disks of many kinds, with power and without: Open leaves what journal.Open alone leaves, refused or not.
func TestOpenLeavesWhatJournalLeaves(t *testing.T) {
	r := rand.New(rand.NewSource(14))
	for i := range 20000 {
		text := anyText(r)
		synced, arm := r.Intn(len(text)+1), r.Intn(3)
		one, other := holding(t, text, synced), holding(t, text, synced)
		for range 2 {
			one.Arm(arm)
			other.Arm(arm)
			if !opensAsJournal(t, fmt.Sprintf("P14.1: disk %d, %q, Arm(%d)", i, text, arm), one, other) {
				return
			}
		}
	}
}

// P14.1, W5: each byte of the records of some keys, turned in all ways.
func TestOpenOfTurnedBytes(t *testing.T) {
	text := used(4)
	for at := range len(text) {
		for mask := 1; mask < 256; mask++ {
			b := []byte(text)
			b[at] ^= byte(mask)
			one, other := holding(t, string(b), 0), holding(t, string(b), 0)
			if !opensAsJournal(t, fmt.Sprintf("P14.1: byte %d turned by %d", at, mask), one, other) {
				return
			}
		}
	}
}

// W5: a whole disk of bytes of one kind.
func TestOpenOfFullDisks(t *testing.T) {
	for _, piece := range []string{"\x00", "\xff", "a", lies(""), lies("\x00"), used(16), lies(strings.Repeat("a", 65528))} {
		text := strings.Repeat(piece, api.MaxDisk/len(piece))
		refused(t, "W5: a full disk", holding(t, text, 0), api.ErrCorrupt)
	}
}
