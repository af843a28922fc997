package ledger_test

import (
	"encoding/binary"
	"fmt"
	"math/rand"
	"slices"
	"strings"
	"testing"

	"broadsheet/api"
	"broadsheet/disk"
	"broadsheet/journal"
	"broadsheet/keys"
	"broadsheet/ledger"
)

// wrongSeeds tells seeds that are none, some with room behind them in which a seed would have place.
func wrongSeeds() [][]byte {
	seeds := [][]byte{nil, {}, seedOf(1)[:31], append(seedOf(1), 0), seedOf(1)[:1], seedOf(1)[:0], slices.Repeat(seedOf(1), 2)}
	return append(seeds, slices.Repeat(seedOf(1), 100)[:33])
}

// P15.1, R1: a wrong seed is ErrArg ahead of all that is wrong with the disks, and changes neither.
func TestOpenOfAWrongSeed(t *testing.T) {
	dark := func(text string) *disk.Disk {
		d := kept(t, text)
		goesDark(t, d)
		return d
	}
	ds := []*disk.Disk{nil, roomy(t), kept(t, written([]string{"a"})), holding(t, written([]string{"a"})+"x", 3), kept(t, lies("")), kept(t, "12345678"), dark("x"), dark("")}
	ks := []*disk.Disk{nil, roomy(t), kept(t, used(3)), holding(t, used(3)+"x", 3), kept(t, lies("")), kept(t, used(17)), dark("x"), dark("")}
	for _, seed := range wrongSeeds() {
		for _, d := range ds {
			for _, k := range ks {
				one, other := told(d), told(k)
				refused(t, fmt.Sprintf("P15.1: a seed of %d bytes", len(seed)), d, k, seed, api.ErrArg)
				if told(d) != one || told(k) != other {
					t.Fatalf("P15.1: a seed of %d bytes: the disks are %s, %s, want %s, %s", len(seed), told(d), told(k), one, other)
				}
			}
		}
	}
}

// P15.1: a wrong seed makes no call of the disks.
func TestOpenOfAWrongSeedCallsNothing(t *testing.T) {
	for _, seed := range wrongSeeds() {
		d, k := kept(t, "x"), kept(t, "x")
		d.Arm(1)
		k.Arm(1)
		refused(t, "P15.1: a wrong seed", d, k, seed, api.ErrArg)
		armedSo(t, "P15.1: a wrong seed, d", d, 1)
		armedSo(t, "P15.1: a wrong seed, k", k, 1)
	}
}

// P15.1: seeds of the right length: any bytes, with room behind them or none.
func TestOpenOfASeed(t *testing.T) {
	seeds := [][]byte{make([]byte, 32), seedOf(1), seedOf(255), slices.Repeat([]byte{255}, 32), slices.Repeat(seedOf(1), 3)[:32]}
	for _, seed := range seeds {
		if l, why := ledger.Open(roomy(t), roomy(t), seed); l == nil || why != api.OK {
			t.Errorf("P15.1: seed %x: %v", seed, why)
		}
	}
}

// P15.1, R1: nil disks.
func TestOpenOfNil(t *testing.T) {
	d, k := kept(t, written([]string{"a"})), kept(t, used(2))
	refused(t, "P15.1: d nil", nil, k, seedOf(1), api.ErrArg)
	refused(t, "P15.1: k nil", d, nil, seedOf(1), api.ErrArg)
	refused(t, "P15.1: both nil", nil, nil, seedOf(1), api.ErrArg)
	tells(t, "P15.1: k nil", d, written([]string{"a"}), 15, false)
	tells(t, "P15.1: d nil", k, used(2), 18, false)
	refused(t, "P15.1: d nil, keys that are none", nil, kept(t, lies("ab")), seedOf(1), api.ErrCorrupt)
	refused(t, "P15.1: k nil, records that are none", kept(t, lies("ab")), nil, seedOf(1), api.ErrArg)
}

// kind is a kind of disk, and how it is made.
type kind struct {
	text   string
	synced int
	arm    int // at which call power goes; -1: it is gone; 0: it stays
	none   bool
}

func (k kind) made(t *testing.T) *disk.Disk {
	t.Helper()
	if k.none {
		return nil
	}
	d := holding(t, k.text, min(k.synced, len(k.text)))
	if k.arm < 0 {
		goesDark(t, d)
	}
	d.Arm(k.arm)
	return d
}

// eachKind tells each of these texts, synced or not, with power and without.
func eachKind(rows ...string) []kind {
	kinds := []kind{{none: true}}
	for _, text := range rows {
		for _, arm := range []int{0, 1, 2, -1} {
			kinds = append(kinds, kind{text: text, arm: arm}, kind{text: text, synced: 7, arm: arm}, kind{text: text, synced: len(text), arm: arm})
		}
	}
	return kinds
}

// mustOpen tells the leaves that the chapter says of a journal's records; false, if they are ErrCorrupt.
func mustOpen(records [][]byte) ([]string, bool) {
	var items []string
	for _, rec := range records {
		row, ok := mustRead(rec)
		if !ok {
			return nil, false
		}
		items = append(items, row...)
	}
	sorted := slices.Sorted(slices.Values(items))
	return items, len(slices.Compact(sorted)) == len(items) && len(items) <= most
}

// mustRead tells the items of a batch: those whose batch is the record.
func mustRead(rec []byte) ([]string, bool) {
	if len(rec) < 4 {
		return nil, false
	}
	count := binary.BigEndian.Uint32(rec)
	var items []string
	for rest := rec[4:]; len(rest) > 1; {
		n := int(binary.BigEndian.Uint16(rest))
		if n > len(rest)-2 {
			break
		}
		items = append(items, string(rest[2:2+n]))
		rest = rest[2+n:]
	}
	return items, count > 0 && int(count) == len(items) && batch(items...) == string(rec)
}

// opensAsItsParts holds Open of two disks against what keys.Open and then journal.Open do to others that are the same, and against what the records are. It tells whether all was well.
func opensAsItsParts(t *testing.T, name string, dk, kk kind) bool {
	t.Helper()
	d, k, otherD, otherK := dk.made(t), kk.made(t), dk.made(t), kk.made(t)
	l, why := ledger.Open(d, k, seedOf(1))
	var items []string
	box, want := keys.Open(otherK)
	if want == api.OK {
		var records [][]byte
		_, records, want = journal.Open(otherD)
		if want == api.OK {
			var ok bool
			if items, ok = mustOpen(records); !ok {
				want = api.ErrCorrupt
			}
		}
	}
	fault := ""
	switch {
	case why != want || (l != nil) != (want == api.OK):
		fault = fmt.Sprintf("Open: %v, %v, want %v", l != nil, why, want)
	case told(d) != told(otherD) || told(k) != told(otherK):
		fault = fmt.Sprintf("the disks are %s, %s, want %s, %s", short(told(d)), short(told(k)), short(told(otherD)), short(told(otherK)))
	case l != nil && l.KeysLeft() != box.Left():
		fault = fmt.Sprintf("KeysLeft %d, want %d", l.KeysLeft(), box.Left())
	case l != nil:
		fault = amiss(l, items)
	}
	if fault != "" {
		t.Errorf("%s: d %q, k %q: %s", name, short(fmt.Sprint(dk)), short(fmt.Sprint(kk)), fault)
	}
	return fault == ""
}

// P15.1, R8: each kind of disk of batches with each kind of disk of keys: which refusal comes first, and what it leaves on both.
func TestOpenOfEachPair(t *testing.T) {
	good := written([]string{"a", "b"}, []string{"c"})
	ds := eachKind("", good, good+"x", good+"12345678", lies("")+"x", good+lies(batch("a")), lies(batch()), good+lies(batch("d"))[:14])
	ks := eachKind("", used(3), used(16), used(3)+"x", used(2)+lies("\x02")[:8], used(17), lies("\x01"), lies("ab")+"y", "12345678")
	for _, d := range ds {
		for _, k := range ks {
			if !opensAsItsParts(t, "P15.1", d, k) {
				return
			}
		}
	}
}

// P15.1: of two disks that are refused the keys' comes first: by refusals that are unlike, written out.
func TestOpenRefusesTheKeysFirst(t *testing.T) {
	good := written([]string{"a"})
	torn, wrong := kind{text: "x", arm: -1}, kind{text: lies("ab")}
	refused(t, "P15.1: keys without power, no batch", wrong.made(t), torn.made(t), seedOf(1), api.ErrFull)
	refused(t, "P15.1: no key, batches without power", torn.made(t), wrong.made(t), seedOf(1), api.ErrCorrupt)
	refused(t, "P15.1: keys without power, d nil", nil, torn.made(t), seedOf(1), api.ErrFull)
	refused(t, "P15.1: k nil, batches without power", torn.made(t), nil, seedOf(1), api.ErrArg)
	refused(t, "P15.1: batches without power", torn.made(t), kept(t, used(1)), seedOf(1), api.ErrFull)
	refused(t, "P15.1: keys without power", kept(t, good), torn.made(t), seedOf(1), api.ErrFull)
	d, k := kept(t, good+"x"), kept(t, lies("ab"))
	refused(t, "P15.1: no key, a torn batch", d, k, seedOf(1), api.ErrCorrupt)
	tells(t, "P15.1: no key, a torn batch", d, good+"x", len(good)+1, false)
}

// P15.1: how batches lie, by bytes that are written out.
func TestOpenOfWrittenBytes(t *testing.T) {
	one := "\x00\x00\x00\x0a\xff\xff\xff\xf5" + "\x00\x00\x00\x02" + "\x00\x01a" + "\x00\x01b"
	two := "\x00\x00\x00\x06\xff\xff\xff\xf9" + "\x00\x00\x00\x01" + "\x00\x00"
	opened(t, "P15.1: one batch", kept(t, one), roomy(t), []string{"a", "b"}, 0)
	opened(t, "P15.1: two batches", kept(t, one+two), kept(t, used(5)), []string{"a", "b", ""}, 5)
	refused(t, "P15.1: twice the same", kept(t, two+two), roomy(t), seedOf(1), api.ErrCorrupt)
}

// P15.1: disks with no batch, with one and with many, of unlike numbers of items: all leaves in order, and the disk as it was.
func TestOpenOfBatches(t *testing.T) {
	for _, counts := range [][]int{{}, {1}, {2}, {17}, {1, 1}, {3, 1, 2}, {1, 2, 3, 4, 5, 6}, {256}, {255, 1}, {1, 255}, slices.Repeat([]int{1}, 256), slices.Repeat([]int{2}, 128), {100, 100, 56}} {
		var rows [][]string
		n := 0
		for _, count := range counts {
			rows = append(rows, named(n, count))
			n += count
		}
		text := written(rows...)
		for _, synced := range []int{0, len(text) / 2, len(text)} {
			d := holding(t, text, synced)
			for range 2 {
				opened(t, fmt.Sprintf("P15.1: batches of %v", counts), d, roomy(t), named(0, n), 0)
				tells(t, "P15.1: batches", d, text, synced, false)
			}
		}
	}
}

// P15.1: items of any bytes and lengths come back.
func TestOpenOfOddItems(t *testing.T) {
	items := []string{"", "\x00", "\x00\x00", "\xff\xff", strings.Repeat("x", 65529), strings.Repeat("\x00", 300), batch("a"), "\xf0\x28\x8c\x28", "a\x00b", "a"}
	opened(t, "P15.1: odd items", kept(t, written(alone(items)...)), roomy(t), items, 0)
	short := append(slices.Clone(items[:4]), items[5:]...)
	opened(t, "P15.1: odd items", kept(t, written(short)), roomy(t), short, 0)
}

// P15.1: records that are no batch of at least one item, alone, behind batches and ahead of them.
func TestOpenOfNoBatch(t *testing.T) {
	for _, rec := range noBatches() {
		for _, front := range []string{"", written([]string{"p"}), written([]string{"p", "q"}, []string{"r"})} {
			for _, rest := range []string{"", written([]string{"z"})} {
				text := front + lies(rec) + rest
				d := kept(t, text)
				for range 2 {
					refused(t, fmt.Sprintf("P15.1: %q behind %d bytes", short(rec), len(front)), d, roomy(t), seedOf(1), api.ErrCorrupt)
					tells(t, "P15.1: no batch", d, text, len(text), false)
				}
			}
		}
	}
}

// P15.1: a count that is one too high or too low, of each number of items that is right.
func TestOpenOfWrongCounts(t *testing.T) {
	for n := range 40 {
		for count := range 60 {
			d := kept(t, lies(counted(uint32(count), named(0, n)...)))
			if count == n && n > 0 {
				opened(t, fmt.Sprintf("P15.1: count %d", count), d, roomy(t), named(0, n), 0)
			} else {
				refused(t, fmt.Sprintf("P15.1: count %d of %d items", count, n), d, roomy(t), seedOf(1), api.ErrCorrupt)
			}
		}
	}
}

// P15.1: an item twice: at each two places, in one batch, in two, and where each has its own.
func TestOpenOfTwice(t *testing.T) {
	for n := 2; n < 9; n++ {
		for i := range n {
			for k := range i {
				items := named(0, n)
				items[i] = items[k]
				name := fmt.Sprintf("P15.1: of %d items %d as %d", n, i, k)
				refused(t, name+", in one batch", kept(t, written(items)), roomy(t), seedOf(1), api.ErrCorrupt)
				refused(t, name+", alone", kept(t, written(alone(items)...)), roomy(t), seedOf(1), api.ErrCorrupt)
				refused(t, name+", in two batches", kept(t, written(items[:i], items[i:])), roomy(t), seedOf(1), api.ErrCorrupt)
			}
		}
	}
	refused(t, "P15.1: the empty item twice", kept(t, written([]string{"", "a"}, []string{"b", ""})), roomy(t), seedOf(1), api.ErrCorrupt)
	items := append(named(0, 255), "item0")
	refused(t, "P15.1: the last one as the first", kept(t, written(alone(items)...)), roomy(t), seedOf(1), api.ErrCorrupt)
}

// P15.1: MaxLeaves items, and more, in one batch and in many.
func TestOpenOfTooMany(t *testing.T) {
	for _, n := range []int{255, 256, 257, 258, 300, 511, 512, 513, 5000} {
		items := named(0, n)
		for _, text := range []string{written(items), written(items[:n-1], items[n-1:]), written(items[:1], items[1:]), written(items[:n/2], items[n/2:]), written(alone(items)...)} {
			d := kept(t, text)
			name := fmt.Sprintf("P15.1: %d leaves in %d bytes", n, len(text))
			if n <= most {
				opened(t, name, d, roomy(t), items, 0)
			} else {
				refused(t, name, d, roomy(t), seedOf(1), api.ErrCorrupt)
			}
			tells(t, name, d, text, len(text), false)
		}
	}
}

// P15.1: torn at each place: the batches that are whole, and what is left of the last one is gone; it goes on behind them.
func TestOpenOfWhatIsTorn(t *testing.T) {
	rows := [][]string{{"a", "b"}, {""}, {"c", "dd", "eee"}, {"f"}}
	text := written(rows...)
	for at := range len(text) + 1 {
		for _, synced := range []int{0, at / 2, at} {
			d := holding(t, text[:at], synced)
			n := 0
			for n < len(rows) && len(written(rows[:n+1]...)) <= at {
				n++
			}
			whole, items := written(rows[:n]...), slices.Concat(rows[:n]...)
			name := fmt.Sprintf("P15.1: cut off at %d", at)
			l := opened(t, name, d, roomy(t), items, 0)
			if len(whole) < at {
				synced = len(whole)
			}
			tells(t, name, d, whole, synced, false)
			adds(t, name, l, []string{"new"}, len(items))
			tells(t, name, d, whole+written([]string{"new"}), len(whole)+17, false)
			stands(t, name, l, append(items, "new"))
		}
	}
}

// P15.1: other pieces of a record, behind batches and behind records that are none: cut away as journal.Open does.
func TestOpenOfPieces(t *testing.T) {
	good := written([]string{"a", "b"})
	for _, rest := range torn() {
		d := holding(t, good+rest, 0)
		opened(t, "P15.1: a piece", d, roomy(t), []string{"a", "b"}, 0)
		tells(t, "P15.1: a piece", d, good, len(good), false)
		d = holding(t, good+lies("")+rest, 0)
		refused(t, "P15.1: a piece behind no batch", d, roomy(t), seedOf(1), api.ErrCorrupt)
		tells(t, "P15.1: a piece behind no batch", d, good+lies(""), len(good)+8, false)
	}
	for _, rest := range noLengths() {
		d := holding(t, good+rest, 4)
		refused(t, "P15.1: no length", d, roomy(t), seedOf(1), api.ErrCorrupt)
		tells(t, "P15.1: no length", d, good+rest, 4, false)
	}
}

// P15.1: where nothing is torn Open makes no call of the disks that changes them, opened or refused; where something is, one Cut of each.
func TestOpenCallsCutsAlone(t *testing.T) {
	good := written([]string{"a"}, []string{"b"})
	for n := 2; n < 5; n++ {
		for _, c := range []struct {
			text, keys string
			why        api.Errno
			ofD, ofK   int
		}{{good, used(3), api.OK, 0, 0}, {"", "", api.OK, 0, 0}, {good + "x", used(3), api.OK, 1, 0}, {good, used(3) + "x", api.OK, 0, 1}, {good + "x", used(3) + "x", api.OK, 1, 1},
			{good + good, used(3), api.ErrCorrupt, 0, 0}, {lies("") + "x", used(3) + "x", api.ErrCorrupt, 1, 1}, {good + "x", lies(""), api.ErrCorrupt, 0, 0}, {good + "x", lies("") + "x", api.ErrCorrupt, 0, 1}} {
			d, k := kept(t, c.text), kept(t, c.keys)
			d.Arm(n)
			k.Arm(n)
			_, why := ledger.Open(d, k, seedOf(1))
			name := fmt.Sprintf("P15.1: Open of %q, %q", c.text, c.keys)
			answers(t, name, why, c.why)
			armedSo(t, name+": d", d, n-c.ofD)
			armedSo(t, name+": k", k, n-c.ofK)
		}
	}
}

// anyText tells bytes for a disk of batches: good ones, and then what may be wrong.
func anyText(r *rand.Rand) string {
	var text strings.Builder
	n := 0
	for range r.Intn(5) {
		count := 1 + r.Intn(4)
		text.WriteString(written(named(n, count)))
		n += count
	}
	none := noBatches()
	odd := []string{"", "", written([]string{"item0"}), lies(none[r.Intn(len(none))]), "12345678", written(named(n, 250+r.Intn(9)))}
	b := []byte(text.String() + odd[r.Intn(len(odd))] + odd[r.Intn(len(odd))])
	if r.Intn(2) == 0 {
		b = b[:r.Intn(len(b)+1)]
	}
	for range r.Intn(3) * r.Intn(2) {
		if len(b) > 0 {
			b[r.Intn(len(b))] = byte(r.Intn(256))
		}
	}
	return string(b)
}

// anyKeys tells bytes for a disk of keys.
func anyKeys(r *rand.Rand) string {
	text := used(r.Intn(19))
	if r.Intn(3) == 0 {
		text = text[:r.Intn(len(text)+1)]
	}
	return text + []string{"", "", "", lies("ab"), "x", "12345678"}[r.Intn(6)]
}

// P15.1, W5: disks of many kinds, with power and without.
func TestOpenOfAnyDisks(t *testing.T) {
	r := rand.New(rand.NewSource(15))
	for range 4000 {
		d, k := kind{text: anyText(r), arm: r.Intn(4) - 1}, kind{text: anyKeys(r), arm: r.Intn(4) - 1}
		d.synced, k.synced = r.Intn(len(d.text)+1), r.Intn(len(k.text)+1)
		if !opensAsItsParts(t, "P15.1", d, k) {
			return
		}
	}
}

// P15.1, W5: each byte of some batches, turned in all ways.
func TestOpenOfTurnedBytes(t *testing.T) {
	text := written([]string{"a", ""}, []string{"cd"})
	for at := range len(text) {
		for mask := 1; mask < 256; mask++ {
			b := []byte(text)
			b[at] ^= byte(mask)
			if !opensAsItsParts(t, "P15.1", kind{text: string(b)}, kind{}) {
				return
			}
		}
	}
}

// W5: a whole disk of bytes of one kind.
func TestOpenOfFullDisks(t *testing.T) {
	for _, piece := range []string{"\x00", "\xff", "a", lies(""), lies("\x00"), lies(counted(0)), written([]string{""}), lies(strings.Repeat("a", 65528)), lies(strings.Repeat("\x00", 65528)), lies(counted(1<<32-1, make([]string, 32000)...))} {
		text := strings.Repeat(piece, api.MaxDisk/len(piece))
		refused(t, "W5: a full disk", kept(t, text), roomy(t), seedOf(1), api.ErrCorrupt)
		refused(t, "W5: a full disk of keys", roomy(t), kept(t, text), seedOf(1), api.ErrCorrupt)
	}
}

// R3: an Open that is refused leaves the ledger that goes on, and its disks, as they were.
func TestRefusedOpensChangeNothing(t *testing.T) {
	d, k := roomy(t), roomy(t)
	l := opened(t, "R3", d, k, nil, 0)
	adds(t, "R3", l, []string{"a", "b"}, 0, 1)
	refused(t, "R3: a wrong seed", d, k, nil, api.ErrArg)
	refused(t, "R3: no keys", d, nil, seedOf(1), api.ErrArg)
	refused(t, "R3: no batches", nil, k, seedOf(1), api.ErrArg)
	refused(t, "R3: keys that are none", d, kept(t, lies("")), seedOf(1), api.ErrCorrupt)
	refused(t, "R3: batches that are none", kept(t, lies("")), k, seedOf(1), api.ErrCorrupt)
	stands(t, "R3", l, []string{"a", "b"})
	adds(t, "R3", l, []string{"c"}, 2)
	tells(t, "R3", d, written([]string{"a", "b"}, []string{"c"}), 8+10+8+7, false)
}
