package keys_test

import (
	"fmt"
	"testing"

	"broadsheet/api"
	"broadsheet/disk"
	"broadsheet/journal"
	"broadsheet/keys"
)

// P14.2: the run of the chapter.
func TestRun(t *testing.T) {
	d := made(t, api.MaxDisk)
	b := opened(t, "P14.2: the run", d, 0)
	takes(t, "P14.2: the run", b, 0)
	takes(t, "P14.2: the run", b, 1)
	b = opened(t, "P14.2: the run, anew", d, 2)
	takes(t, "P14.2: the run", b, 2)
}

// P14.1: example 1.
func TestTheSeventeenth(t *testing.T) {
	b := opened(t, "P14.1", made(t, api.MaxDisk), 0)
	for key := range all {
		takes(t, "P14.1: example 1", b, key)
	}
	takesNone(t, "P14.1: example 1", b, api.ErrUsed, all)
}

// P14.1, P14.2: from each number of used keys to the last one: which key is told, and what is on the disk behind each Take, synced.
func TestTakeEach(t *testing.T) {
	for n := range all + 1 {
		d := holding(t, used(n), 0)
		b := opened(t, "P14.1", d, n)
		for key := n; key < all; key++ {
			name := fmt.Sprintf("P14.1: %d were used, key %d", n, key)
			takes(t, name, b, key)
			tells(t, name, d, used(key+1), size*(key+1), false)
		}
		for range 3 {
			takesNone(t, "P14.1: all are used", b, api.ErrUsed, all)
		}
	}
}

// P14.1: what a Take puts is a journal's record, and can be read as one.
func TestTakePutsRecords(t *testing.T) {
	d := made(t, api.MaxDisk)
	b := opened(t, "P14.1", d, 0)
	for key := range all {
		takes(t, "P14.1", b, key)
		_, records, why := journal.Open(d)
		if why != api.OK || len(records) != key+1 || string(records[key]) != record(key) {
			t.Errorf("P14.1: records behind key %d: %q, %v", key, records, why)
		}
	}
}

// P14.1: opened anew behind each Take.
func TestOpenAnewBehindEachTake(t *testing.T) {
	d := made(t, size*all)
	for key := range all {
		takes(t, "P14.1: anew", opened(t, "P14.1: anew", d, key), key)
		d.Crash(0)
	}
	takesNone(t, "P14.1: anew", opened(t, "P14.1: anew", d, all), api.ErrUsed, all)
	tells(t, "P14.1: anew", d, used(all), size*all, false)
}

// spent tells boxes without a key left: one that was opened so, one that took them; on disks with room, on full ones, and without power.
func spent(t *testing.T) map[string]func() (*keys.Box, *disk.Disk) {
	text := used(all)
	taken := func(limit int) (*keys.Box, *disk.Disk) {
		d := made(t, limit)
		b := opened(t, "P14.1", d, 0)
		for key := range all {
			takes(t, "P14.1", b, key)
		}
		return b, d
	}
	return map[string]func() (*keys.Box, *disk.Disk){
		"opened": func() (*keys.Box, *disk.Disk) {
			d := holding(t, text, len(text))
			return opened(t, "P14.1", d, all), d
		},
		"opened, not synced": func() (*keys.Box, *disk.Disk) {
			d := holding(t, text, 3)
			return opened(t, "P14.1", d, all), d
		},
		"opened without power": func() (*keys.Box, *disk.Disk) {
			d := dark(t, text)
			return opened(t, "P14.1", d, all), d
		},
		"taken":              func() (*keys.Box, *disk.Disk) { return taken(api.MaxDisk) },
		"taken, a full disk": func() (*keys.Box, *disk.Disk) { return taken(size * all) },
		"taken, power is gone": func() (*keys.Box, *disk.Disk) {
			b, d := taken(size*all + 5)
			goesDark(t, d)
			return b, d
		},
	}
}

// P14.1: without a key left Take is ErrUsed, ahead of what the disk would refuse, again and again, and puts nothing.
func TestTakeOfNoneLeft(t *testing.T) {
	for name, begin := range spent(t) {
		b, d := begin()
		was := told(d)
		for range 20 {
			takesNone(t, "P14.1: "+name, b, api.ErrUsed, all)
			if told(d) != was {
				t.Fatalf("P14.1: %s: the disk is %s, want %s", name, told(d), was)
			}
		}
		d.Grow(api.MaxDisk)
		takesNone(t, "P14.1: "+name+", room again", b, api.ErrUsed, all)
	}
}

// P14.1: on disks of each limit: as many keys as have room, then ErrFull and the next key stays; nothing is put.
func TestTakeOfAFullDisk(t *testing.T) {
	for limit := range size*all + 20 {
		d := made(t, limit)
		b := opened(t, "P14.1", d, 0)
		n := min(limit/size, all)
		for key := range n {
			takes(t, fmt.Sprintf("P14.1: limit %d", limit), b, key)
		}
		want := api.ErrFull
		if n == all {
			want = api.ErrUsed
		}
		for range 3 {
			takesNone(t, fmt.Sprintf("P14.1: limit %d", limit), b, want, n)
			tells(t, "P14.1: a full disk", d, used(n), size*n, false)
		}
		opened(t, fmt.Sprintf("P14.1: limit %d, anew", limit), d, n)
	}
}

// P14.1: with room again the same key is told: room for a piece of its length, for its length alone, for all but a byte is not enough.
func TestTakeWithRoomAgain(t *testing.T) {
	for n := range all {
		for room := range 2 * size {
			d := made(t, size*n)
			b := opened(t, "P14.1", d, 0)
			for key := range n {
				takes(t, "P14.1", b, key)
			}
			takesNone(t, "P14.1: no room", b, api.ErrFull, n)
			if !d.Grow(size*n + room) {
				t.Fatal("P12.1: Grow")
			}
			name := fmt.Sprintf("P14.1: key %d, room for %d bytes", n, room)
			if room < size {
				takesNone(t, name, b, api.ErrFull, n)
				tells(t, name, d, used(n), size*n, false)
				d.Grow(api.MaxDisk)
			}
			takes(t, name, b, n)
			tells(t, name, d, used(n+1), size*(n+1), false)
		}
	}
}

// P14.1: Next and Left are asked again and again, and change nothing.
func TestNextAndLeft(t *testing.T) {
	d := made(t, api.MaxDisk)
	b := opened(t, "P14.1", d, 0)
	for key := range all {
		for range 3 {
			stands(t, "P14.1: asked again", b, key)
		}
		tells(t, "P14.1: asked again", d, used(key), size*key, false)
		takes(t, "P14.1: behind Next and Left", b, key)
	}
	stands(t, "P14.1: all are used", b, 16)
}

// P14.1: an Open anew beside a box that goes on, on a disk without a crash, has what is on the disk; and a box that was opened so does not count what the other one takes.
func TestOpenBesideABoxThatGoesOn(t *testing.T) {
	d := made(t, api.MaxDisk)
	b := opened(t, "P14.1", d, 0)
	beside := []*keys.Box{opened(t, "P14.1: beside", d, 0)}
	for key := range all {
		takes(t, "P14.1: goes on", b, key)
		beside = append(beside, opened(t, "P14.1: beside", d, key+1))
		for n, other := range beside {
			stands(t, fmt.Sprintf("P14.1: opened behind %d keys", n), other, n)
		}
	}
}

// P14.2: a key whose Take was refused because power went is no key that was told: beside the box an Open anew has its record, if it is there, and nobody takes without power.
func TestOpenBesideABoxWithoutPower(t *testing.T) {
	for call := 1; call < 3; call++ {
		d := made(t, api.MaxDisk)
		b := opened(t, "P14.2", d, 0)
		takes(t, "P14.2", b, 0)
		d.Arm(call)
		takesNone(t, "P14.2: power goes", b, api.ErrFull, 1)
		other := opened(t, "P14.2: beside, without power", d, 2)
		takesNone(t, "P14.2: beside, without power", other, api.ErrFull, 2)
		takesNone(t, "P14.2: without power", b, api.ErrFull, 1)
		tells(t, "P14.2: without power", d, used(2), size, true)
	}
}
