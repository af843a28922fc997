package front_test

import (
	"fmt"
	"slices"
	"testing"

	"broadsheet/api"
	"broadsheet/disk"
	"broadsheet/journal"
)

// usual is a setting that may be.
var usual = setting{room: 3, size: 2, wait: 10}

// wrongSettings tells settings that batch.New refuses: one number alone below or above its bounds, and several.
func wrongSettings() []setting {
	var wrong []setting
	for _, room := range []int{least, -1, 0, 1, mostRoom, mostRoom + 1, greatest} {
		for _, size := range []int{least, -1, 0, 1, mostSize, mostSize + 1, greatest} {
			for _, wait := range []int{least, -1, 0, mostWait, mostWait + 1, greatest} {
				if room < 1 || room > mostRoom || size < 1 || size > mostSize || wait < 0 || wait > mostWait {
					wrong = append(wrong, setting{room, size, wait})
				}
			}
		}
	}
	return wrong
}

// P17.1: settings at each bound are taken.
func TestOpenAtTheBounds(t *testing.T) {
	for _, room := range []int{1, 2, mostRoom - 1, mostRoom} {
		for _, size := range []int{1, 2, mostSize - 1, mostSize} {
			for _, wait := range []int{0, 1, mostWait - 1, mostWait} {
				s := setting{room, size, wait}
				f, _, _ := begun(t, fmt.Sprintf("P17.1: %+v", s), s)
				accepts(t, fmt.Sprintf("P17.1: %+v", s), f, 0, 5, items(1, room)...)
				submits(t, fmt.Sprintf("P17.1: %+v", s), f, item(99), 5, api.Busy, 0)
			}
		}
	}
}

// P17.1: settings below and above a bound are ErrArg, and touch neither the disk nor the ledger: what is torn stays.
func TestOpenOfWrongSettings(t *testing.T) {
	for _, s := range wrongSettings() {
		for _, text := range []string{"", lies(item(1)), lies(item(1)) + "x"} {
			d, l := kept(t, text), logOf(t, item(9))
			d.Arm(1)
			refused(t, fmt.Sprintf("P17.1: %+v", s), d, l, s, api.ErrArg)
			tells(t, fmt.Sprintf("P17.1: %+v", s), d, text, len(text), false)
			armedSo(t, fmt.Sprintf("P17.1: %+v", s), d, 1)
			hasLeaves(t, fmt.Sprintf("P17.1: %+v", s), l, item(9))
		}
	}
}

// wrongDisks tells disks that the journal refuses or whose records are no manifests, and what is answered of each.
func wrongDisks(t *testing.T) (disks []*disk.Disk, whys []api.Errno) {
	t.Helper()
	add := func(d *disk.Disk, why api.Errno) {
		disks, whys = append(disks, d), append(whys, why)
	}
	good := lies(item(1), item(2))
	add(nil, api.ErrArg)
	for _, rest := range []string{"12345678", head(1)[:7] + "\xff", head(65536), filled(9, "\x00")} {
		add(kept(t, rest), api.ErrCorrupt)
		add(kept(t, good+rest), api.ErrCorrupt)
	}
	for _, rest := range []string{"x", head(3) + "ab", lies(item(3))[:itemSize-1]} {
		for _, front := range []string{"", good, lies("rubbish")} {
			d := kept(t, front+rest)
			goesDark(t, d)
			add(d, api.ErrFull)
			d = kept(t, front+rest)
			d.Arm(1)
			add(d, api.ErrFull)
		}
	}
	for _, text := range []string{lies("rubbish"), lies(""), good + lies("rubbish"), good + lies("")} {
		add(kept(t, text), api.ErrCorrupt)
		d := kept(t, text)
		goesDark(t, d)
		add(d, api.ErrCorrupt)
	}
	return disks, whys
}

// P17.1, R1: with l nil all is ErrArg, whatever the settings and the disk are, and the disk is not touched.
func TestOpenWithoutALedger(t *testing.T) {
	for _, s := range append(wrongSettings(), usual) {
		refused(t, fmt.Sprintf("P17.1: no ledger, no disk, %+v", s), nil, nil, s, api.ErrArg)
	}
	for _, s := range []setting{usual, {0, 2, 10}, {0, 0, -1}, {mostRoom + 1, 2, 10}} {
		disks, _ := wrongDisks(t)
		for i, d := range append(disks, roomy(t), kept(t, lies(item(1))), kept(t, lies(item(1))+"x")) {
			was := told(d)
			refused(t, fmt.Sprintf("P17.1: no ledger, disk %d, %+v", i, s), d, nil, s, api.ErrArg)
			if told(d) != was {
				t.Errorf("P17.1: no ledger: the disk is %s, want %s", told(d), was)
			}
		}
	}
	d := kept(t, lies(item(1))+"x")
	d.Arm(1)
	refused(t, "P17.1: no ledger", d, nil, usual, api.ErrArg)
	armedSo(t, "P17.1: no ledger", d, 1)
}

// P17.1, R8: a wrong setting comes ahead of all that is wrong with the disk.
func TestOpenOfAWrongSettingAndAWrongDisk(t *testing.T) {
	l := logOf(t, item(9))
	for _, s := range wrongSettings() {
		disks, _ := wrongDisks(t)
		for i, d := range disks {
			was := told(d)
			refused(t, fmt.Sprintf("P17.1: disk %d, %+v", i, s), d, l, s, api.ErrArg)
			if told(d) != was {
				t.Fatalf("P17.1: disk %d, %+v: the disk is %s, want %s", i, s, told(d), was)
			}
		}
	}
	hasLeaves(t, "P17.1: wrong settings", l, item(9))
}

// P17.1: what the journal refuses is answered, and leaves on the disk what the journal leaves; the ledger has what it had.
func TestOpenOfAWrongDisk(t *testing.T) {
	l := logOf(t, item(9), item(1))
	disks, whys := wrongDisks(t)
	others, _ := wrongDisks(t)
	for i, d := range disks {
		name := fmt.Sprintf("P17.1: disk %d", i)
		refused(t, name, d, l, usual, whys[i])
		if _, _, why := journal.Open(others[i]); why != api.OK && why != whys[i] {
			t.Errorf("%s: journal.Open: %v, want %v", name, why, whys[i])
		}
		if told(d) != told(others[i]) {
			t.Errorf("%s: the disk is %s, want %s", name, told(d), told(others[i]))
		}
		refused(t, name+", once more", d, l, usual, whys[i])
	}
	hasLeaves(t, "P17.1: wrong disks", l, item(9), item(1))
}

// P17.1: a record that is no manifest is ErrCorrupt, alone and at each place among manifests, also among such as the ledger has; nothing but the journal's Cut changes the disk.
func TestOpenOfNoManifests(t *testing.T) {
	l := logOf(t, item(1), item(2), "rubbish", "")
	good := items(1, 3)
	for _, bad := range noManifests() {
		if len(bad) > api.MaxRecord {
			continue
		}
		for at := -1; at <= len(good); at++ {
			recs := []string{bad}
			if at >= 0 {
				recs = slices.Insert(slices.Clone(good), at, bad)
			}
			name := fmt.Sprintf("P17.1: %q at %d", short(bad), at)
			d := kept(t, lies(recs...)+"x")
			refused(t, name, d, l, usual, api.ErrCorrupt)
			tells(t, name, d, lies(recs...), len(lies(recs...)), false)
			d.Arm(1)
			refused(t, name+", once more", d, l, usual, api.ErrCorrupt)
			armedSo(t, name, d, 1)
		}
	}
	hasLeaves(t, "P17.1: no manifests", l, item(1), item(2), "rubbish", "")
}

// P17.1: manifests of all forms are records that may be.
func TestOpenOfManifests(t *testing.T) {
	recs := someManifests()
	d := kept(t, lies(recs...))
	l := logOf(t)
	f := opened(t, "P17.1: manifests", d, l, setting{mostRoom, mostSize, mostWait}, len(recs), recs...)
	for left := len(recs); left > 0; left = f.Waits() {
		n := min(left, mostSize)
		steps(t, "P17.1: manifests", f, least, upTo(len(recs)-left, n)...)
	}
	hasLeaves(t, "P17.1: manifests", l, recs...)
}

// P17.1: of a disk with no record, with one and with many, of which the ledger has all, some or none: those that it has not wait, in order, since ever.
func TestOpenOfReceipts(t *testing.T) {
	for n := range 10 {
		recs := items(1, n)
		for had := range 1 << min(n, 7) {
			var leaves, waiting []string
			for i, rec := range recs {
				if had>>i&1 == 1 {
					leaves = append(leaves, rec)
				} else {
					waiting = append(waiting, rec)
				}
			}
			slices.Reverse(leaves) // the ledger's order is its own
			opensAndDrains(t, fmt.Sprintf("P17.1: %d receipts, leaves %b", n, had), recs, leaves, waiting)
		}
	}
}

// opensAndDrains opens a front on a disk with these records and on a ledger with these leaves, holds how many wait, and then by Steps which ones, and in which order.
func opensAndDrains(t *testing.T, name string, recs, leaves, waiting []string) {
	t.Helper()
	for _, s := range []setting{{1, 1, 0}, {3, 2, 10}, {mostRoom, mostSize, mostWait}} {
		d, l := kept(t, lies(recs...)), logOf(t, leaves...)
		d.Arm(1)
		f := opened(t, name, d, l, s, len(waiting), recs...)
		hasLeaves(t, name, l, leaves...)
		for left := len(waiting); left > 0; {
			n := min(left, s.size)
			steps(t, name, f, least, upTo(len(leaves)+len(waiting)-left, n)...)
			left -= n
			stands(t, name, f, left, recs...)
		}
		steps(t, name+", nothing is left", f, greatest)
		hasLeaves(t, name, l, append(slices.Clone(leaves), waiting...)...)
		armedSo(t, name+": no call of the disk", d, 1)
	}
}

// P17.1: leaves of the ledger that have no receipt, manifests or not, are nothing to the front.
func TestOpenWithOtherLeaves(t *testing.T) {
	recs := items(1, 4)
	leaves := []string{"rubbish", item(50), "", item(3), item(51)}
	d, l := kept(t, lies(recs...)), logOf(t, leaves...)
	f := opened(t, "P17.1: other leaves", d, l, usual, 3, recs...)
	steps(t, "P17.1: other leaves", f, least, 5, 6)
	steps(t, "P17.1: other leaves", f, least, 7)
	hasLeaves(t, "P17.1: other leaves", l, append(leaves, item(1), item(2), item(4))...)
}

// P17.1, R10: a manifest that is there twice has two receipts, and waits twice, if the ledger has it not; it is told the first one. Taken once, it is a leaf.
func TestOpenOfAManifestTwice(t *testing.T) {
	recs := []string{item(1), item(2), item(1), item(3), item(2)}
	all := lies(recs...)
	d, l := kept(t, all), logOf(t)
	f := opened(t, "P17.1: twice", d, l, setting{mostRoom, 3, 10}, 5, recs...)
	submits(t, "P17.1: twice", f, item(1), 0, api.Accepted, 0)
	submits(t, "P17.1: twice", f, item(2), 0, api.Accepted, 1)
	submits(t, "P17.1: once", f, item(3), 0, api.Accepted, 3)
	steps(t, "P17.1: twice in one batch", f, least, 0, 1, 0)
	stands(t, "P17.1: twice", f, 2, recs...)
	submits(t, "P17.1: a leaf that waits, too", f, item(2), 0, api.Duplicate, 1)
	steps(t, "P17.1: twice in two batches", f, least, 2, 1)
	stands(t, "P17.1: twice", f, 0, recs...)
	hasLeaves(t, "P17.1: twice", l, items(1, 3)...)
	tells(t, "P17.1: twice", d, all, len(all), false)

	f = opened(t, "P17.1: twice, a leaf by now", kept(t, all), logOf(t, item(2)), usual, 3, recs...)
	steps(t, "P17.1: twice, a leaf by now", f, least, 1, 1)
	steps(t, "P17.1: twice, a leaf by now", f, least, 2)
	opened(t, "P17.1: twice, all are leaves", kept(t, all), l, usual, 0, recs...)
}

// P17.1: Open lets wait whatever has a receipt, more than room, too.
func TestOpenOfMoreThanRoom(t *testing.T) {
	for _, s := range []setting{{1, 1, 0}, {1, mostSize, 10}, {3, 2, 10}, {mostRoom, mostSize, mostWait}} {
		for _, n := range []int{s.room - 1, s.room, s.room + 1, 2 * s.room, 100} {
			name := fmt.Sprintf("P17.1: %+v, %d wait", s, n)
			d, l := kept(t, lies(items(1, n)...)), logOf(t)
			f := opened(t, name, d, l, s, n, items(1, n)...)
			for left := n; left >= s.room; left = f.Waits() {
				was := told(d)
				submits(t, name, f, item(300), 0, api.Busy, 0)
				if told(d) != was {
					t.Errorf("%s: the disk is %s, want %s", name, told(d), was)
				}
				k := min(left, s.size)
				steps(t, name, f, least, upTo(n-left, k)...)
				stands(t, name, f, left-k, items(1, n)...)
			}
			submits(t, name, f, item(300), 0, api.Accepted, n)
			stands(t, name, f, f.Waits(), append(items(1, n), item(300))...)
		}
	}
}

// P17.1, R1: as many receipts as a disk has room for.
func TestOpenOfAFullDisk(t *testing.T) {
	n := api.MaxDisk / itemSize
	recs := items(1, n)
	d, l := kept(t, lies(recs...)), logOf(t, recs[:200]...)
	f := opened(t, "P17.1: a full disk", d, l, setting{mostRoom, mostSize, 0}, n-200, recs...)
	for i := range 7 {
		steps(t, "P17.1: a full disk", f, 0, upTo(200+8*i, 8)...)
	}
	stepsNot(t, "P17.1: a full ledger", f, 0, api.ErrLong)
	stands(t, "P17.1: a full ledger", f, n-256, recs...)
	submits(t, "P17.1: a full disk", f, recs[n-1], 0, api.Accepted, n-1)
}

// P17.1: a last record that is torn, at each place: it is cut away, and the others are there. The next one stands behind them.
func TestOpenOfATornDisk(t *testing.T) {
	for n := range 3 {
		recs := items(1, n)
		whole := lies(recs...)
		for at := 1; at < itemSize; at++ {
			for _, synced := range []int{len(whole), len(whole) + at} {
				name := fmt.Sprintf("P17.1: %d receipts, %d bytes of the next", n, at)
				d, l := holding(t, whole+lies(item(9))[:at], synced), logOf(t)
				f := opened(t, name, d, l, usual, n, recs...)
				tells(t, name, d, whole, len(whole), false)
				submits(t, name, f, item(9), 0, api.Accepted, n)
				tells(t, name, d, whole+lies(item(9)), len(whole)+itemSize, false)
				opened(t, name+", anew", d, l, usual, n+1, append(slices.Clone(recs), item(9))...)
			}
		}
	}
}

// P17.1: where the Cut of what is torn is refused, so is Open; behind a Crash it is opened.
func TestOpenOfATornDiskWithoutPower(t *testing.T) {
	for _, goneAhead := range []bool{false, true} {
		for at := 1; at < itemSize; at++ {
			name := fmt.Sprintf("P17.1: %d bytes of the second", at)
			whole := lies(item(1))
			d, l := holding(t, whole+lies(item(2))[:at], len(whole)), logOf(t)
			d.Arm(1)
			if goneAhead {
				d.Sync()
			}
			for range 2 {
				refused(t, name, d, l, usual, api.ErrFull)
				tells(t, name, d, whole+lies(item(2))[:at], len(whole), true)
			}
			d.Crash(at / 2)
			opened(t, name+", behind a Crash", d, l, usual, 1, item(1))
			tells(t, name+", behind a Crash", d, whole, len(whole), false)
		}
	}
}

// P17.1: without power a whole disk is read: what is there waits.
func TestOpenWithoutPower(t *testing.T) {
	d, l := kept(t, lies(items(1, 3)...)), logOf(t, item(2))
	goesDark(t, d)
	f := opened(t, "P17.1: without power", d, l, usual, 2, items(1, 3)...)
	submits(t, "P17.1: without power", f, item(1), 0, api.Accepted, 0)
	submits(t, "P17.1: without power", f, item(2), 0, api.Duplicate, 0)
	submits(t, "P17.1: without power", f, item(4), 0, api.Busy, 0)
	steps(t, "P17.1: without power", f, 0, 1, 2)
	hasLeaves(t, "P17.1: without power", l, item(2), item(1), item(3))
	tells(t, "P17.1: without power", d, lies(items(1, 3)...), 3*itemSize, true)
}

// R1: one disk for the front and the ledger is not promised to be kept well, but every call ends and none panics.
func TestOneDiskForBoth(t *testing.T) {
	d := roomy(t)
	l := logOn(t, d)
	f := opened(t, "R1: one disk", d, l, usual, 0)
	submits(t, "R1: one disk", f, item(1), 0, api.Accepted, 0)
	steps(t, "R1: one disk", f, 10, 0)
	refused(t, "R1: one disk", d, l, usual, api.ErrCorrupt)
}
