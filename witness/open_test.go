package witness_test

import (
	"fmt"
	"slices"
	"strings"
	"testing"

	"broadsheet/api"
	"broadsheet/disk"
	"broadsheet/journal"
	"broadsheet/keys"
	"broadsheet/witness"
)

// wrongAsks tells what Open must refuse ahead of any disk: one thing alone below or above its bounds, and several.
func wrongAsks() []asked {
	lists := func(good []byte) [][]byte {
		return [][]byte{good, nil, {}, good[:0], good[:1], good[:31], append(slices.Clone(good), 0), slices.Repeat(good, 2), slices.Repeat(good, 9)[:33]}
	}
	var wrong []asked
	for _, id := range []int{0, 3, -1, 4, 5, least, greatest, 1 << 32, 256} {
		for i, seed := range lists(seedOf(witnessSeed)) {
			for j, log := range lists(publicOf(logSeed)) {
				if id < 0 || id > 3 || i > 0 || j > 0 {
					wrong = append(wrong, asked{id, seed, log})
				}
			}
		}
	}
	return wrong
}

// P18.1: each id that may be, seeds and logs of any bytes, with room behind them or none.
func TestOpenAtTheBounds(t *testing.T) {
	for id := range allWitnesses {
		for _, seed := range [][]byte{make([]byte, 32), seedOf(9), []byte(strings.Repeat("\xff", 32)), slices.Repeat(seedOf(9), 3)[:32]} {
			for _, log := range [][]byte{make([]byte, 32), publicOf(logSeed), []byte(strings.Repeat("\xff", 32)), slices.Repeat(seedOf(9), 3)[:32]} {
				w, why := witness.Open(roomy(t), roomy(t), id, seed, log)
				if w == nil || why != api.OK {
					t.Fatalf("P18.1: id %d, seed %x, log %x: %v", id, seed, log, why)
				}
				stands(t, "P18.1: a new one", w, id, plain.at(0), 0)
			}
		}
	}
}

// P18.1, R1: what is wrong beside the disks is ErrArg ahead of all that is wrong with them, and touches neither.
func TestOpenOfWrongAsks(t *testing.T) {
	wrong := wrongAsks()
	dark := func(text string) *disk.Disk {
		d := kept(t, text)
		goesDark(t, d)
		return d
	}
	ds := []*disk.Disk{nil, roomy(t), kept(t, plain.lie(1, 2)), holding(t, plain.lie(1)+"x", 3), kept(t, lies("")), kept(t, "12345678"), dark("x"), dark("")}
	ks := []*disk.Disk{nil, roomy(t), kept(t, used(3)), holding(t, used(3)+"x", 3), kept(t, lies("")), kept(t, used(17)), dark("x"), dark("")}
	for _, a := range wrong {
		for _, d := range ds {
			for _, k := range ks {
				one, other := told(d), told(k)
				refused(t, fmt.Sprintf("P18.1: %v", a), d, k, a, api.ErrArg)
				if told(d) != one || told(k) != other {
					t.Fatalf("P18.1: %v: the disks are %s, %s, want %s, %s", a, told(d), told(k), one, other)
				}
			}
		}
	}
	for _, a := range wrong {
		d, k := kept(t, "x"), kept(t, "x")
		d.Arm(1)
		k.Arm(1)
		refused(t, fmt.Sprintf("P18.1: %v", a), d, k, a, api.ErrArg)
		armedSo(t, "P18.1: a call of d", d, 1)
		armedSo(t, "P18.1: a call of k", k, 1)
	}
}

// P18.1, R1: nil disks. The keys' is asked first.
func TestOpenOfNil(t *testing.T) {
	d, k := kept(t, plain.lie(1, 2)), kept(t, used(2))
	refused(t, "P18.1: d nil", nil, k, usual(), api.ErrArg)
	refused(t, "P18.1: k nil", d, nil, usual(), api.ErrArg)
	refused(t, "P18.1: both nil", nil, nil, usual(), api.ErrArg)
	tells(t, "P18.1: k nil", d, plain.lie(1, 2), 2*recSize, false)
	tells(t, "P18.1: d nil", k, used(2), 2*keySize, false)
	refused(t, "P18.1: d nil, keys that are none", nil, kept(t, lies("ab")), usual(), api.ErrCorrupt)
	refused(t, "P18.1: k nil, records that are none", kept(t, lies("ab")), nil, usual(), api.ErrArg)
}

// kind is a kind of disk, and how it is made.
type kind struct {
	text   string
	synced int
	arm    int // at which call power goes; -1: it is gone; 0: it stays
	none   bool
}

func (k kind) made(t *testing.T) *disk.Disk {
	t.Helper()
	if k.none {
		return nil
	}
	d := holding(t, k.text, min(k.synced, len(k.text)))
	if k.arm < 0 {
		goesDark(t, d)
	}
	d.Arm(k.arm)
	return d
}

// eachKind tells each of these texts, synced or not, with power and without.
func eachKind(rows ...string) []kind {
	kinds := []kind{{none: true}}
	for _, text := range rows {
		for _, arm := range []int{0, 1, 2, -1} {
			kinds = append(kinds, kind{text: text, arm: arm}, kind{text: text, synced: 7, arm: arm}, kind{text: text, synced: len(text), arm: arm})
		}
	}
	return kinds
}

// mustOpen tells the checkpoint that the chapter says of a journal's records; false, if they are ErrCorrupt.
func mustOpen(records [][]byte) (point, bool) {
	last := plain.at(0)
	for _, rec := range records {
		if len(rec) != 36 || rec[0] > 0 || rec[1] > 0 {
			return point{}, false
		}
		size := int(rec[2])<<8 + int(rec[3])
		if size > most || size <= last.size {
			return point{}, false
		}
		last = point{size, string(rec[4:])}
	}
	return last, true
}

// opensAsItsParts holds Open of two disks against what keys.Open and then journal.Open do to others that are the same, and against what the records are. It tells whether all was well.
func opensAsItsParts(t *testing.T, dk, kk kind) bool {
	t.Helper()
	d, k, otherD, otherK := dk.made(t), kk.made(t), dk.made(t), kk.made(t)
	w, why := witness.Open(d, k, 1, seedOf(witnessSeed), publicOf(logSeed))
	var last point
	box, want := keys.Open(otherK)
	if want == api.OK {
		var records [][]byte
		if _, records, want = journal.Open(otherD); want == api.OK {
			var ok bool
			if last, ok = mustOpen(records); !ok {
				want = api.ErrCorrupt
			}
		}
	}
	fault := ""
	switch {
	case why != want || (w != nil) != (want == api.OK):
		fault = fmt.Sprintf("Open: %v, %v, want %v", w != nil, why, want)
	case told(d) != told(otherD) || told(k) != told(otherK):
		fault = fmt.Sprintf("the disks are %s, %s, want %s, %s", told(d), told(k), told(otherD), told(otherK))
	case w != nil:
		fault = amiss(w, 1, last, allKeys-box.Left())
	}
	if fault != "" {
		t.Errorf("P18.1: d %q, k %q: %s", short(fmt.Sprint(dk)), short(fmt.Sprint(kk)), fault)
	}
	return fault == ""
}

// P18.1, R8: each kind of disk of checkpoints with each kind of disk of keys: which refusal comes first, and what it leaves on both.
func TestOpenOfEachPair(t *testing.T) {
	good := plain.lie(1, 5)
	ds := eachKind("", good, good+"x", good+"12345678", lies("")+"x", good+plain.lie(5), plain.lie(0), good+fork.lie(6)[:20], good+fork.lie(9))
	ks := eachKind("", used(3), used(16), used(3)+"x", used(2)+lies("\x02")[:8], used(17), lies("\x01"), lies("ab")+"y", "12345678")
	for _, d := range ds {
		for _, k := range ks {
			if !opensAsItsParts(t, d, k) {
				return
			}
		}
	}
}

// P18.1: of two disks that are refused the keys' comes first: by refusals that are unlike, written out.
func TestOpenRefusesTheKeysFirst(t *testing.T) {
	torn, wrong := kind{text: "x", arm: -1}, kind{text: lies("ab")}
	refused(t, "P18.1: keys without power, no checkpoint", wrong.made(t), torn.made(t), usual(), api.ErrFull)
	refused(t, "P18.1: no key, checkpoints without power", torn.made(t), wrong.made(t), usual(), api.ErrCorrupt)
	refused(t, "P18.1: keys without power, d nil", nil, torn.made(t), usual(), api.ErrFull)
	refused(t, "P18.1: k nil, checkpoints without power", torn.made(t), nil, usual(), api.ErrArg)
	refused(t, "P18.1: checkpoints without power", torn.made(t), kept(t, used(1)), usual(), api.ErrFull)
	refused(t, "P18.1: keys without power", kept(t, plain.lie(1)), torn.made(t), usual(), api.ErrFull)
}

// noCheckpoints tells records that are none.
func noCheckpoints() []string {
	root := plain.at(7).root
	recs := []string{"", "\x00", "\x07", "\x00\x00\x07", rec(7, ""), rec(7, root[:1]), rec(7, root[:31]), rec(7, root+"\x00"), rec(7, root+root), rec(7, root) + rec(8, root), root, "rubbish", strings.Repeat("\xff", 36), strings.Repeat("\x01", 36), strings.Repeat("\x00", 65535), "\x00\x00" + rec(7, root), rec(7, root)[1:], rec(7, root)[2:], lies(rec(7, root))}
	for _, size := range []uint32{257, 258, 511, 512, 1<<16 - 1, 1 << 16, 1<<16 + 7, 1 << 24, 1<<24 + 7, 1<<31 - 1, 1 << 31, 1<<31 + 7, 1<<32 - 256, 1<<32 - 1, 7 << 8, 7 << 16, 7 << 24} {
		recs = append(recs, rec(size, root))
	}
	s := plain.signed(7)
	return append(recs, rec(7, root)+string(slices.Concat(slices.Concat(s.Sig.Parts...), slices.Concat(s.Sig.Path...))))
}

// opensNot holds that Open of a disk with these records is ErrCorrupt, once and again; nothing but the journal's Cut changes the disk, and nothing the keys'.
func opensNot(t *testing.T, name string, recs ...string) {
	t.Helper()
	text := lies(recs...)
	d, k := kept(t, text+"x"), kept(t, used(2))
	refused(t, name, d, k, usual(), api.ErrCorrupt)
	tells(t, name, d, text, len(text), false)
	d.Arm(1)
	k.Arm(1)
	refused(t, name+", once more", d, k, usual(), api.ErrCorrupt)
	tells(t, name+", the keys", k, used(2), 2*keySize, false)
	armedSo(t, name, d, 1)
	armedSo(t, name+", the keys", k, 1)
}

// P18.1: a record that is no checkpoint is ErrCorrupt, alone, the first, in the midst and the last.
func TestOpenOfNoCheckpoints(t *testing.T) {
	good := plain.recsOf(2, 5, 9)
	for _, bad := range noCheckpoints() {
		opensNot(t, fmt.Sprintf("P18.1: %q alone", short(bad)), bad)
		for at := range len(good) + 1 {
			opensNot(t, fmt.Sprintf("P18.1: %q at %d", short(bad), at), slices.Insert(slices.Clone(good), at, bad)...)
		}
	}
}

// P18.1: each byte of a size as each other one, and any root.
func TestOpenOfEachSize(t *testing.T) {
	root := plain.at(7).root
	for at := range 4 {
		for turn := range 256 {
			b := []byte(rec(7, root))
			b[at] = byte(turn)
			size := int(b[0])<<24 | int(b[1])<<16 | int(b[2])<<8 | int(b[3])
			if size < 1 || size > most {
				opensNot(t, fmt.Sprintf("P18.1: size %d", size), string(b))
				continue
			}
			opened(t, fmt.Sprintf("P18.1: size %d", size), kept(t, lies(string(b))), roomy(t), 0, point{size, root}, 0)
		}
	}
	for _, root := range []string{strings.Repeat("\x00", 32), strings.Repeat("\xff", 32), plain.at(0).root} {
		opened(t, "P18.1: any root", kept(t, lies(rec(1, root))), roomy(t), 0, point{1, root}, 0)
		opened(t, "P18.1: any root", kept(t, lies(rec(256, root))), roomy(t), 0, point{256, root}, 0)
	}
}

// P18.1: sizes that rise are taken, whatever the roots are; others are ErrCorrupt, at whatever place: the same one twice, too, and a first one of 0.
func TestOpenOfRowsOfSizes(t *testing.T) {
	for a := range 6 {
		for b := range 6 {
			for c := range 6 {
				for _, last := range []*face{plain, alien} {
					recs := append(plain.recsOf(a, b), last.recsOf(c)...)
					name := fmt.Sprintf("P18.1: sizes %d, %d, %d", a, b, c)
					if 0 < a && a < b && b < c {
						opened(t, name, kept(t, lies(recs...)), roomy(t), 0, last.at(c), 0)
						continue
					}
					opensNot(t, name, recs...)
				}
			}
		}
	}
	for _, sizes := range [][]int{{0}, {0, 1}, {1, 0}, {256, 256}, {256, 255}, {255, 256, 0}, {1, 256, 2}} {
		opensNot(t, fmt.Sprintf("P18.1: sizes %v", sizes), plain.recsOf(sizes...)...)
	}
}

// P18.1: of no record, of one and of many, with each number of used keys: Check is the last one.
func TestOpenOfCheckpoints(t *testing.T) {
	var all []int
	for n := range most + 1 {
		if n > 0 {
			all = append(all, n)
		}
		d, k := kept(t, plain.lie(all...)), kept(t, used(n%17))
		d.Arm(1)
		k.Arm(1)
		opened(t, fmt.Sprintf("P18.1: %d checkpoints", n), d, k, n%allWitnesses, plain.at(n), n%17)
		armedSo(t, "P18.1: no call of d", d, 1)
		armedSo(t, "P18.1: no call of k", k, 1)
		if n > 0 {
			opened(t, "P18.1: one checkpoint", kept(t, alien.lie(n)), roomy(t), 0, alien.at(n), 0)
		}
	}
}

// P18.1: a last record that is torn, at each place, on each of both disks: it is cut away, and the others are there. The next one stands behind them.
func TestOpenOfATornDisk(t *testing.T) {
	for n := range 3 {
		sizes := []int{2, 5, 9}[:n]
		last, whole := plain.at(append([]int{0}, sizes...)[n]), plain.lie(sizes...)
		for at := 1; at < recSize; at++ {
			for _, synced := range []int{len(whole), len(whole) + at} {
				name := fmt.Sprintf("P18.1: %d checkpoints, %d bytes of the next", n, at)
				d, k := holding(t, whole+plain.lie(100)[:at], synced), holding(t, used(n)+lies(string([]byte{byte(n)}))[:at%keySize], keySize*n)
				w := opened(t, name, d, k, 1, last, n)
				tells(t, name, d, whole, len(whole), false)
				tells(t, name+", the keys", k, used(n), keySize*n, k.Down())
				cosigns(t, name, w, plain.signed(10), plain.grow(last.size, 10), n)
				tells(t, name, d, whole+plain.lie(10), len(whole)+recSize, false)
				tells(t, name+", the keys", k, used(n+1), keySize*n+keySize, false)
				opened(t, name+", anew", d, k, 1, plain.at(10), n+1)
			}
		}
	}
}

// P18.1: where the Cut of what is torn is refused, so is Open; behind a Crash it is opened. The keys' disk, which is whole, stays.
func TestOpenOfATornDiskWithoutPower(t *testing.T) {
	for _, goneAhead := range []bool{false, true} {
		for at := 1; at < recSize; at++ {
			name := fmt.Sprintf("P18.1: %d bytes of the second", at)
			text := plain.lie(3) + plain.lie(100)[:at]
			d, k := holding(t, text, recSize), kept(t, used(4))
			d.Arm(1)
			if goneAhead {
				d.Sync()
			}
			for range 2 {
				refused(t, name, d, k, usual(), api.ErrFull)
				tells(t, name, d, text, recSize, true)
				tells(t, name+", the keys", k, used(4), 4*keySize, false)
			}
			d.Crash(at / 2)
			opened(t, name+", behind a Crash", d, k, 0, plain.at(3), 4)
			tells(t, name+", behind a Crash", d, plain.lie(3), recSize, false)
		}
	}
}

// P18.1: the same of the keys' disk: the other one, torn, too, is not touched.
func TestOpenOfTornKeysWithoutPower(t *testing.T) {
	for at := 1; at < keySize; at++ {
		name := fmt.Sprintf("P18.1: %d bytes of the second key", at)
		d, k := kept(t, plain.lie(3)+"x"), holding(t, used(2)[:keySize+at], keySize)
		k.Arm(1)
		for range 2 {
			refused(t, name, d, k, usual(), api.ErrFull)
			tells(t, name, d, plain.lie(3)+"x", recSize+1, false)
			tells(t, name, k, used(2)[:keySize+at], keySize, true)
		}
		k.Crash(at - 1)
		opened(t, name+", behind a Crash", d, k, 0, plain.at(3), 1)
	}
}

// P18.1: without power whole disks are read.
func TestOpenWithoutPower(t *testing.T) {
	d, k := kept(t, plain.lie(3, 7)), kept(t, used(5))
	goesDark(t, d)
	goesDark(t, k)
	w := opened(t, "P18.1: without power", d, k, 2, plain.at(7), 5)
	cosignsNot(t, "P18.1: without power", w, plain.signed(8), plain.grow(7, 8), api.ErrFull)
	cosignsNot(t, "P18.1: without power, the same", w, plain.signed(7), plain.grow(7, 7), api.ErrFull)
	stands(t, "P18.1: without power", w, 2, plain.at(7), 5)
	tells(t, "P18.1: without power", d, plain.lie(3, 7), 2*recSize, true)
	tells(t, "P18.1: without power", k, used(5), 5*keySize, true)
}

// P18.1, R1: one disk as both: what is on it must be read as keys and as checkpoints, so only an empty one is; what is refused comes in the order of the parts.
func TestOneDiskForBoth(t *testing.T) {
	for _, c := range []struct {
		text string
		want api.Errno
	}{{"", api.OK}, {"x", api.OK}, {used(1), api.ErrCorrupt}, {used(16) + "x", api.ErrCorrupt}, {plain.lie(1), api.ErrCorrupt}, {used(1) + plain.lie(1), api.ErrCorrupt}, {"12345678", api.ErrCorrupt}} {
		d := kept(t, c.text)
		w, why := witness.Open(d, d, 0, seedOf(witnessSeed), publicOf(logSeed))
		if why != c.want || (w != nil) != (c.want == api.OK) {
			t.Errorf("P18.1: one disk with %q: %v, want %v", c.text, why, c.want)
		}
		tells(t, "P18.1: one disk", d, strings.TrimSuffix(c.text, "x"), len(strings.TrimSuffix(c.text, "x")), false)
	}
	dark := kept(t, "x")
	goesDark(t, dark)
	refused(t, "P18.1: one disk without power", dark, dark, usual(), api.ErrFull)
	d := roomy(t)
	w := opened(t, "R1: one disk", d, d, 0, plain.at(0), 0)
	cosigns(t, "R1: one disk", w, plain.signed(2), plain.grow(0, 2), 0)
	cosigns(t, "R1: one disk", w, plain.signed(3), plain.grow(2, 3), 1)
	refused(t, "R1: one disk, anew", d, d, usual(), api.ErrCorrupt)
}
