package disk_test

import (
	"fmt"
	"math"
	"strings"
	"testing"

	"broadsheet/api"
	"broadsheet/disk"
)

// states tells how a disk may be when it crashes: each by a name, and what brings it there without changing its bytes.
func states() map[string]func(*disk.Disk) {
	return map[string]func(*disk.Disk){
		"with power":            func(*disk.Disk) {},
		"armed near":            func(d *disk.Disk) { d.Arm(1) },
		"armed farther":         func(d *disk.Disk) { d.Arm(5) },
		"armed and disarmed":    func(d *disk.Disk) { d.Arm(1); d.Arm(0) },
		"without power by Sync": func(d *disk.Disk) { d.Arm(1); d.Sync() },
		"without power by Cut":  func(d *disk.Disk) { d.Arm(1); d.Cut(0) },
		"without power, armed":  func(d *disk.Disk) { d.Arm(1); d.Append(nil); d.Arm(1) },
	}
}

// P12.2: Crash with each keep, in each state, with nothing, some and all synced.
func TestCrash(t *testing.T) {
	const all = "abcdef"
	keeps := append(farOff(), -2, -1)
	for keep := range len(all) + 3 {
		keeps = append(keeps, keep)
	}
	for state, bring := range states() {
		for synced := range len(all) + 1 {
			for _, keep := range keeps {
				name := fmt.Sprintf("P12.2: Crash(%d), %d of 6 synced, %s", keep, synced, state)
				d := laid(t, 9, all[:synced], all[synced:])
				bring(d)
				d.Crash(keep)
				stays := synced
				for more := 1; more <= keep && stays < len(all); more++ {
					stays++
				}
				tells(t, name, d, all[:stays], stays, false)
				goesOnAsAtFirst(t, name, d, all[:stays], 9)
			}
		}
	}
}

// goesOnAsAtFirst holds that nothing is armed, and that each call does what it does on a disk that had no crash.
func goesOnAsAtFirst(t *testing.T, name string, d *disk.Disk, all string, limit int) {
	t.Helper()
	synced := len(all)
	for i := 0; len(all) < limit; i++ {
		answers(t, name+": Append", d.Append([]byte{byte(i)}), api.OK)
		all += string(rune(i))
		tells(t, name+": behind an Append", d, all, synced, false)
	}
	answers(t, name+": Append to a full disk", d.Append([]byte("x")), api.ErrFull)
	for range 9 {
		answers(t, name+": Sync", d.Sync(), api.OK)
	}
	tells(t, name+": behind a Sync", d, all, limit, false)
	answers(t, name+": a wrong Cut", d.Cut(limit+1), api.ErrArg)
	answers(t, name+": Cut", d.Cut(limit-1), api.OK)
	tells(t, name+": behind a Cut", d, all[:limit-1], limit-1, false)
	d.Arm(2)
	answers(t, name+": Append, armed", d.Append([]byte("y")), api.OK)
	answers(t, name+": Sync, armed", d.Sync(), api.ErrFull)
	tells(t, name+": power gone anew", d, all[:limit-1]+"y", limit-1, true)
}

// P12.2: several Appends that are not synced are one row to a Crash.
func TestCrashOfSeveralAppends(t *testing.T) {
	for keep := range 10 {
		d := laid(t, 20, "ab", "")
		for _, b := range []string{"c", "", "def", "gh"} {
			answers(t, "P12.1: Append", d.Append([]byte(b)), api.OK)
		}
		d.Crash(keep)
		tells(t, fmt.Sprintf("P12.2: Crash(%d) of several", keep), d, "abcdefgh"[:min(2+keep, 8)], min(2+keep, 8), false)
	}
}

// P12.2: a Crash of an empty disk, and one Crash behind the other.
func TestCrashAgain(t *testing.T) {
	d := made(t, 9)
	for _, keep := range []int{math.MinInt, -1, 0, 1, math.MaxInt} {
		d.Crash(keep)
		tells(t, "P12.2: Crash of nothing", d, "", 0, false)
	}
	answers(t, "P12.1: Append", d.Append([]byte("abcdef")), api.OK)
	d.Crash(4)
	for _, keep := range []int{math.MinInt, -1, 0, 1, 2, 6, math.MaxInt} {
		d.Crash(keep)
		tells(t, "P12.2: Crash behind a Crash", d, "abcd", 4, false)
	}
}

// P12.2: what a Crash took away does not come back, by no call.
func TestWhatCrashTookStaysAway(t *testing.T) {
	d := laid(t, 9, "ab", "cdef")
	d.Crash(1)
	answers(t, "P12.1: Cut of what is away", d.Cut(4), api.ErrArg)
	if !d.Grow(20) {
		t.Error("P12.1: Grow")
	}
	answers(t, "P12.1: Append of nothing", d.Append(nil), api.OK)
	answers(t, "P12.1: Sync", d.Sync(), api.OK)
	d.Crash(9)
	tells(t, "P12.2: behind a Crash", d, "abc", 3, false)
	answers(t, "P12.1: Append", d.Append([]byte("X")), api.OK)
	tells(t, "P12.2: behind a Crash and an Append", d, "abcX", 3, false)
}

// P12.2: the limit is as it was, a grown one, and one that is less, too.
func TestCrashLeavesTheLimit(t *testing.T) {
	for limit := 4; limit < 12; limit++ {
		for keep := range 4 {
			d := laid(t, 7, "ab", "cd")
			if !d.Grow(limit) {
				t.Errorf("P12.1: Grow(%d)", limit)
			}
			d.Crash(keep)
			room(t, fmt.Sprintf("P12.2: limit %d, Crash(%d)", limit, keep), d, limit-min(2+keep, 4))
		}
	}
}

// P12.3: what was synced is there for ever: power goes at each call of a row of writes, with each keep.
func TestWhatWasSyncedStays(t *testing.T) {
	texts := []string{"one ", "two ", "three ", "four "}
	for at := 1; at <= 2*len(texts)+1; at++ {
		for keep := range 8 {
			name := fmt.Sprintf("P12.3: power goes at call %d, %d kept", at, keep)
			d := made(t, 99)
			d.Arm(at)
			sure, put := "", ""
			for _, text := range texts {
				if d.Append([]byte(text)) == api.OK || d.Size() > len(put) {
					put += text
				}
				if d.Sync() == api.OK {
					sure = put
				}
				if !strings.HasPrefix(string(d.Bytes()), sure) || d.Synced() != len(sure) {
					t.Errorf("%s: %q, want %q at its front", name, d.Bytes(), sure)
				}
			}
			d.Crash(keep)
			stays := min(len(sure)+keep, len(put))
			tells(t, name, d, put[:stays], stays, false)
		}
	}
}
