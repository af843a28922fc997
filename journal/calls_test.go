package journal_test

import (
	"fmt"
	"testing"

	"broadsheet/api"
	"broadsheet/disk"
	"broadsheet/journal"
)

// torn tells what may be left of a last record.
func torn() []string {
	return []string{"\x00", "x", "\xff\xff\xff\xff\xff\xff\xff", head(3), head(3) + "ab", head(65535) + "abc", head(0)[:7]}
}

// armedSo holds that power goes at the n-th call of the disk from now on: by Syncs, of which those ahead of it are taken.
func armedSo(t *testing.T, name string, d *disk.Disk, n int) {
	t.Helper()
	for i := 1; i < n; i++ {
		answers(t, fmt.Sprintf("%s: call %d of %d", name, i, n), d.Sync(), api.OK)
	}
	if d.Down() {
		t.Errorf("%s: power is gone ahead of call %d", name, n)
	}
	answers(t, fmt.Sprintf("%s: call %d, at which power goes", name, n), d.Sync(), api.ErrFull)
	if !d.Down() {
		t.Errorf("%s: power is there behind call %d", name, n)
	}
}

// P13.2: Open of a disk on which nothing is torn makes no call that changes it, whole or corrupt.
func TestOpenCallsNothing(t *testing.T) {
	for n := 1; n < 4; n++ {
		for _, recs := range append(rows(), nil) {
			all := lies(recs...)
			for _, synced := range []int{0, len(all) / 2, len(all)} {
				d := holding(t, all, synced)
				d.Arm(n)
				for range 3 {
					opened(t, "P13.2: armed", d, recs...)
				}
				tells(t, "P13.2: Open of what is whole", d, all, synced, false)
				armedSo(t, "P13.2: Open of what is whole", d, n)
			}
			d := holding(t, all+"12345678", len(all))
			d.Arm(n)
			refused(t, "P13.2: armed", d, api.ErrCorrupt)
			tells(t, "P13.2: Open of what is corrupt", d, all+"12345678", len(all), false)
			armedSo(t, "P13.2: Open of what is corrupt", d, n)
		}
	}
}

// P13.1, P13.2: where something is torn Open makes one call, a Cut.
func TestOpenCallsOneCut(t *testing.T) {
	for n := 2; n < 5; n++ {
		for _, recs := range append(rows(), nil) {
			front := lies(recs...)
			for _, rest := range torn() {
				for _, synced := range []int{0, len(front), len(front + rest)} {
					d := holding(t, front+rest, synced)
					d.Arm(n)
					opened(t, "P13.2: armed", d, recs...)
					tells(t, "P13.2: Open of what is torn", d, front, len(front), false)
					opened(t, "P13.2: nothing is torn any more", d, recs...)
					armedSo(t, "P13.2: Open of what is torn", d, n-1)
				}
			}
		}
	}
}

// P13.1: what Cut refuses is answered, nothing else is told, and the disk has what it had: where power goes at it, and where it is gone.
func TestOpenAnswersWhatCutRefuses(t *testing.T) {
	for _, goneAhead := range []bool{false, true} {
		for _, recs := range append(rows(), nil) {
			front := lies(recs...)
			for _, rest := range torn() {
				all := front + rest
				for _, synced := range []int{len(front), len(all) - 1, len(all)} {
					for keep := range 3 {
						d := holding(t, all, synced)
						d.Arm(1)
						if goneAhead {
							answers(t, "P12.2: Sync", d.Sync(), api.ErrFull)
						}
						for range 2 {
							refused(t, "P13.1: Cut is refused", d, api.ErrFull)
							tells(t, "P13.1: Cut is refused", d, all, synced, true)
						}
						d.Crash(keep)
						opened(t, "P13.1: behind the Crash", d, recs...)
						tells(t, "P13.1: behind the Crash", d, front, len(front), false)
					}
				}
			}
		}
	}
}

// P13.1: without power Open reads what is whole, and refuses what is corrupt: neither needs a Cut.
func TestOpenWithoutPower(t *testing.T) {
	for _, recs := range append(rows(), nil) {
		front := lies(recs...)
		d := dark(t, front)
		j := opened(t, "P13.1: without power", d, recs...)
		tells(t, "P13.1: without power", d, front, len(front), true)
		answers(t, "P13.2: Put without power", j.Put([]byte("a")), api.ErrFull)
		answers(t, "P13.2: Sync without power", j.Sync(), api.ErrFull)
		answers(t, "P13.2: Add without power", j.Add([]byte("a")), api.ErrFull)
		counts(t, "P13.2: without power", j, len(recs))
		tells(t, "P13.2: without power", d, front, len(front), true)

		d = dark(t, front+"12345678")
		refused(t, "P13.1: without power", d, api.ErrCorrupt)
		tells(t, "P13.1: corrupt, without power", d, front+"12345678", len(front)+8, true)
	}
}

// dark tells a disk with these bytes, synced, without power.
func dark(t *testing.T, all string) *disk.Disk {
	t.Helper()
	d := holding(t, all, len(all))
	d.Arm(1)
	answers(t, "P12.2: Sync", d.Sync(), api.ErrFull)
	return d
}

// P13.2: Put is one call of the disk, an Append: with each Arm, how the disk is behind each Put.
func TestPutIsOneAppend(t *testing.T) {
	for n := 1; n < 6; n++ {
		d := made(t, 999)
		j := opened(t, "P13.2", d)
		d.Arm(n)
		all := ""
		for i := 1; i < 8; i++ {
			name := fmt.Sprintf("P13.2: Put %d, Arm(%d)", i, n)
			rec := fmt.Sprint("record", i)
			want, count := api.OK, i
			if i >= n {
				want, count = api.ErrFull, n-1
			}
			if i <= n {
				all += lies(rec)
			}
			answers(t, name, j.Put([]byte(rec)), want)
			tells(t, name, d, all, 0, i >= n)
			counts(t, name, j, count)
		}
	}
}

// P13.2: Sync is one call of the disk, a Sync.
func TestSyncIsOneSync(t *testing.T) {
	for n := 2; n < 7; n++ {
		d := made(t, 999)
		j := opened(t, "P13.2", d)
		d.Arm(n)
		answers(t, "P13.2: Put", j.Put([]byte("a")), api.OK)
		for i := 2; i < 9; i++ {
			name := fmt.Sprintf("P13.2: call %d is a Sync, Arm(%d)", i, n)
			want, synced := api.OK, 9
			if i >= n {
				want = api.ErrFull
			}
			if n == 2 {
				synced = 0
			}
			answers(t, name, j.Sync(), want)
			tells(t, name, d, lies("a"), synced, i >= n)
			counts(t, name, j, 1)
		}
	}
}

// P13.2: Add is a Put and then a Sync: what it answers where power goes at its first or its second call, and later, and what Count is then.
func TestAddIsPutAndSync(t *testing.T) {
	for n := range 9 {
		d := made(t, 999)
		j := opened(t, "P13.2", d)
		d.Arm(n)
		all, synced, count := "", 0, 0
		for i := range 6 {
			name := fmt.Sprintf("P13.2: Add %d, Arm(%d)", i, n)
			rec := fmt.Sprint("record", i)
			first, second := 2*i+1, 2*i+2 // which calls of the disk it makes
			want := api.ErrFull
			if n == 0 || first <= n {
				all += lies(rec)
			}
			if n == 0 || first < n {
				count++
			}
			if n == 0 || second < n {
				want, synced = api.OK, len(all)
			}
			answers(t, name, j.Add([]byte(rec)), want)
			tells(t, name, d, all, synced, n > 0 && second >= n)
			counts(t, name, j, count)
		}
	}
}

// P13.2: where Put is refused Add makes no Sync: what was put ahead of it stays loose, and the Arm stands.
func TestAddDoesNotSyncWhatWasRefused(t *testing.T) {
	d := made(t, 20)
	j := opened(t, "P13.2", d)
	answers(t, "P13.2: Put", j.Put([]byte("a")), api.OK)
	answers(t, "P13.2: Add that is too long", j.Add(make([]byte, 65536)), api.ErrLong)
	tells(t, "P13.2: Add that is too long", d, lies("a"), 0, false)
	answers(t, "P13.2: Add that does not fit", j.Add([]byte("abcd")), api.ErrFull)
	tells(t, "P13.2: Add that does not fit", d, lies("a"), 0, false)
	d.Arm(2)
	answers(t, "P13.2: Add that does not fit", j.Add([]byte("abcd")), api.ErrFull)
	tells(t, "P13.2: Add that does not fit, Arm(2)", d, lies("a"), 0, false)
	counts(t, "P13.2: refused", j, 1)
	answers(t, "P13.2: Sync, the second call", j.Sync(), api.ErrFull)
	tells(t, "P13.2: the second call", d, lies("a"), 0, true)
}

// P13.2: Put and Sync, one behind the other, are an Add.
func TestAddIsAsPutThenSync(t *testing.T) {
	for n := range 12 {
		for limit := range 60 {
			one, other := made(t, limit), made(t, limit)
			added, put := opened(t, "P13.2", one), opened(t, "P13.2", other)
			one.Arm(n)
			other.Arm(n)
			for _, rec := range []string{"", "abc", "0123456789", "x", string(noise(65536)), ""} {
				want := put.Put([]byte(rec))
				if want == api.OK {
					want = put.Sync()
				}
				answers(t, "P13.2: Add", added.Add([]byte(rec)), want)
				if told(one) != told(other) || added.Count() != put.Count() {
					t.Fatalf("P13.2: Arm(%d), limit %d: %s and %d by Add, %s and %d by Put and Sync", n, limit, told(one), added.Count(), told(other), put.Count())
				}
			}
		}
	}
}

// P13.2: a record that is too long makes no call of the disk, by none of both.
func TestTooLongCallsNothing(t *testing.T) {
	for name, call := range map[string]func(*journal.Journal, []byte) api.Errno{"Put": (*journal.Journal).Put, "Add": (*journal.Journal).Add} {
		for n := 1; n < 4; n++ {
			d := made(t, api.MaxDisk)
			j := opened(t, "P13.2", d)
			d.Arm(n)
			for range 3 {
				answers(t, "P13.2: "+name+" of too much", call(j, make([]byte, 65536)), api.ErrLong)
			}
			tells(t, "P13.2: "+name+" of too much", d, "", 0, false)
			armedSo(t, "P13.2: "+name+" of too much", d, n)
			answers(t, "P13.2: "+name+" of too much without power", call(j, make([]byte, 65536)), api.ErrLong)
			answers(t, "P13.2: "+name+" without power", call(j, make([]byte, 65535)), api.ErrFull)
			counts(t, "P13.2: "+name+" refused", j, 0)
		}
	}
}

// P13.2: Count is no call of the disk.
func TestCountCallsNothing(t *testing.T) {
	d := holding(t, lies("a", "b"), 3)
	j := opened(t, "P13.2", d, "a", "b")
	d.Arm(1)
	for range 5 {
		counts(t, "P13.2: asked again", j, 2)
	}
	tells(t, "P13.2: Count", d, lies("a", "b"), 3, false)
	armedSo(t, "P13.2: Count", d, 1)
	counts(t, "P13.2: without power", j, 2)
}
