package disk_test

import (
	"bytes"
	"fmt"
	"testing"

	"broadsheet/api"
)

// spoil writes over a list and over the room behind it.
func spoil(b []byte) {
	b = b[:cap(b)]
	for i := range b {
		b[i] ^= 0xa5
	}
}

// roomy tells the same bytes with room behind them that is not zero.
func roomy(b []byte) []byte {
	all := append(bytes.Clone(b), noise(50)...)
	return all[:len(b)]
}

// R2, R5: what is handed to Append is not changed, nor the room behind it, taken and refused, with power and without.
func TestAppendLeavesWhatItIsGiven(t *testing.T) {
	for n := range 20 {
		for armed := range 3 {
			d := made(t, 24)
			d.Arm(armed)
			b := roomy(noise(n))
			was := bytes.Clone(b[:cap(b)])
			for range 3 {
				d.Append(b)
				d.Sync()
				if !bytes.Equal(b[:cap(b)], was) {
					t.Fatalf("R2: Append of %d bytes changed what it was given", n)
				}
			}
		}
	}
}

// R2: what was handed to Append, and the room behind it, may be changed afterwards: no later answer changes.
func TestAppendKeepsNothing(t *testing.T) {
	for n := range 40 {
		for _, first := range []bool{true, false} {
			d := made(t, api.MaxDisk)
			all := ""
			if !first {
				all = "ab"
				d.Append([]byte(all))
			}
			b := roomy(noise(n))
			answers(t, "P12.1: Append", d.Append(b), api.OK)
			all += string(b)
			spoil(b)
			name := fmt.Sprintf("R2: Append of %d bytes, spoilt", n)
			tells(t, name, d, all, 0, false)
			d.Sync()
			d.Append([]byte("tail"))
			spoil(b)
			tells(t, name+", gone on", d, all+"tail", len(all), false)
			d.Crash(2)
			spoil(b)
			tells(t, name+", behind a Crash", d, all+"ta", len(all)+2, false)
		}
	}
}

// R2: the Append at which power goes keeps nothing of what it was given either.
func TestTheLastAppendKeepsNothing(t *testing.T) {
	d := made(t, 99)
	d.Arm(1)
	b := roomy([]byte("abc"))
	answers(t, "P12.2: Append", d.Append(b), api.ErrFull)
	spoil(b)
	tells(t, "R2: power gone, spoilt", d, "abc", 0, true)
	d.Crash(2)
	spoil(b)
	tells(t, "R2: power gone, spoilt, behind a Crash", d, "ab", 2, false)
}

// R2: what Bytes told, and the room behind it, may be changed: no later answer changes; and a told one does not change by later calls.
func TestBytesAreNewMemory(t *testing.T) {
	for n := range 40 {
		d := made(t, 200)
		all := string(noise(n))
		d.Append([]byte(all))
		d.Sync()
		name := fmt.Sprintf("R2: Bytes of %d", n)
		one, other := d.Bytes(), d.Bytes()
		spoil(one)
		tells(t, name+", spoilt", d, all, n, false)
		if string(other) != all {
			t.Errorf("%s: two answers share memory", name)
		}
		d.Append([]byte("xyz"))
		grown := d.Bytes()
		spoil(one)
		spoil(other)
		tells(t, name+", spoilt behind an Append", d, all+"xyz", n, false)
		d.Cut(n / 2)
		d.Append(bytes.Repeat([]byte("-"), 60))
		d.Crash(9)
		if string(grown) != all+"xyz" {
			t.Errorf("%s: an answer changed by later calls", name)
		}
		spoil(grown)
		tells(t, name+", spoilt behind all", d, all[:n/2]+"---------", n/2+9, false)
	}
}

// R2: room behind what Bytes told is no place for later Appends, of either side.
func TestBytesShareNoRoom(t *testing.T) {
	for n := range 40 {
		d := made(t, 200)
		all := string(noise(n))
		d.Append([]byte(all))
		got := d.Bytes()
		mine := append(got, "mine"...)
		d.Append([]byte("yours"))
		if string(mine) != all+"mine" {
			t.Errorf("R2: Bytes of %d: an Append wrote into its room", n)
		}
		tells(t, fmt.Sprintf("R2: Bytes of %d, gone on", n), d, all+"yours", 0, false)
	}
}

// R2, R4: a disk is given what it told itself.
func TestAppendOfItsOwnBytes(t *testing.T) {
	d := made(t, 200)
	d.Append([]byte("abc"))
	answers(t, "P12.1: Append of its own Bytes", d.Append(d.Bytes()), api.OK)
	answers(t, "P12.1: Append of its own Bytes", d.Append(d.Bytes()[2:5]), api.OK)
	tells(t, "P12.1: its own Bytes", d, "abcabccab", 0, false)
}

// R2, R4: two disks side by side see nothing of each other, whatever is done to the one.
func TestDisksAreByThemselves(t *testing.T) {
	steps := []step{
		{kind: doAppend, b: "xyz"}, {kind: doAppend, b: "too much of it"}, {kind: doSync}, {kind: doCut, n: 1}, {kind: doCut, n: 9},
		{kind: doGrow, n: 20}, {kind: doArm, n: 1}, {kind: doCrash}, {kind: doCrash, n: 9},
	}
	both := []byte("cd")
	eachRow(steps, 3, func(row []step) bool {
		one, other := laid(t, 8, "ab", ""), laid(t, 8, "ab", "")
		one.Append(both)
		other.Append(both)
		for _, s := range row {
			does(one, s)
			if told(other) != `"abcd" 4 2 false` {
				t.Errorf("R4: %v on another disk: %s", row, told(other))
				return false
			}
		}
		room(t, "R4: the other disk", other, 4)
		answers(t, "R4: the other disk: Sync", other.Sync(), api.OK)
		return true
	})
}

// R4: the same calls are answered the same, on how many disks ever, and however often a disk is asked.
func TestAskingChangesNothing(t *testing.T) {
	run := []step{{kind: doAppend, b: "abc"}, {kind: doArm, n: 4}, {kind: doSync}, {kind: doAppend, b: "defg"}, {kind: doCut, n: 5}, {kind: doAppend, b: "hi"}, {kind: doSync}, {kind: doCrash, n: 1}, {kind: doAppend, b: "jkl"}}
	asked, quiet := made(t, 20), made(t, 20)
	for _, s := range run {
		for range 3 {
			told(asked)
		}
		if got, want := does(asked, s), does(quiet, s); got != want {
			t.Errorf("R4: %v: %s, asked often, else %s", s, got, want)
		}
	}
	if told(asked) != told(quiet) {
		t.Errorf("R4: %s, asked often, else %s", told(asked), told(quiet))
	}
}
