package disk_test

import (
	"fmt"
	"math"
	"testing"

	"broadsheet/api"
	"broadsheet/disk"
)

// counted is one kind of call on a disk of limit 8 that has abcd, the first two synced: what it answers with power, whether it counts, and what there is if power goes at it.
type counted struct {
	name   string
	call   func(*disk.Disk) api.Errno
	want   api.Errno
	counts bool
	all    string // and the first two of it are synced
}

func eachKind() []counted {
	appends := func(b []byte) func(*disk.Disk) api.Errno {
		return func(d *disk.Disk) api.Errno { return d.Append(b) }
	}
	cuts := func(n int) func(*disk.Disk) api.Errno {
		return func(d *disk.Disk) api.Errno { return d.Cut(n) }
	}
	return []counted{
		{"Append of one byte", appends([]byte("x")), api.OK, true, "abcdx"},
		{"Append of just what fits", appends([]byte("wxyz")), api.OK, true, "abcdwxyz"},
		{"Append of one byte too many", appends([]byte("vwxyz")), api.ErrFull, true, "abcd"},
		{"Append of far too much", appends(noise(api.MaxDisk + 1)), api.ErrFull, true, "abcd"},
		{"Append of nil", appends(nil), api.OK, true, "abcd"},
		{"Append of nothing", appends([]byte{}), api.OK, true, "abcd"},
		{"Sync", (*disk.Disk).Sync, api.OK, true, "abcd"},
		{"Cut(0)", cuts(0), api.OK, true, "abcd"},
		{"Cut(1)", cuts(1), api.OK, true, "abcd"},
		{"Cut(3)", cuts(3), api.OK, true, "abcd"},
		{"Cut(4)", cuts(4), api.OK, true, "abcd"},
		{"Cut(5)", cuts(5), api.ErrArg, false, "abcd"},
		{"Cut(-1)", cuts(-1), api.ErrArg, false, "abcd"},
		{"Cut of the least", cuts(math.MinInt), api.ErrArg, false, "abcd"},
		{"Cut of the greatest", cuts(math.MaxInt), api.ErrArg, false, "abcd"},
	}
}

// P12.2: power goes at each kind of call that counts: what it answers, and what is there then.
func TestPowerGoesAtEachKind(t *testing.T) {
	for _, k := range eachKind() {
		name := "P12.2: Arm(1), " + k.name
		d := laid(t, 8, "ab", "cd")
		d.Arm(1)
		tells(t, name+", armed", d, "abcd", 2, false)
		if !k.counts {
			answers(t, name, k.call(d), k.want)
			tells(t, name, d, k.all, 2, false)
			answers(t, name+", and the first that counts", d.Sync(), api.ErrFull)
			tells(t, name+", and the first that counts", d, k.all, 2, true)
			continue
		}
		answers(t, name, k.call(d), api.ErrFull)
		tells(t, name, d, k.all, 2, true)
		for keep := range len(k.all) {
			d := laid(t, 8, "ab", "cd")
			d.Arm(1)
			k.call(d)
			d.Crash(keep)
			stays := min(2+keep, len(k.all))
			tells(t, fmt.Sprintf("%s, Crash(%d)", name, keep), d, k.all[:stays], stays, false)
			room(t, fmt.Sprintf("%s, Crash(%d)", name, keep), d, 8-stays)
		}
	}
}

// P12.2: each kind of call ahead of the n-th: as many as count, and the n-th of them is the one.
func TestWhichCallsCount(t *testing.T) {
	for _, k := range eachKind() {
		for n := 1; n < 6; n++ {
			d := laid(t, 8, "ab", "cd")
			d.Arm(n)
			for i := range 5 {
				goes := k.counts && i+1 >= n
				name := fmt.Sprintf("P12.2: Arm(%d), %s, call %d", n, k.name, i+1)
				got := k.call(d)
				if goes {
					answers(t, name, got, api.ErrFull)
				}
				if d.Down() != goes {
					t.Errorf("%s: Down %v", name, d.Down())
				}
			}
		}
	}
}

// P12.2: without power each Append, Sync and Cut answers ErrFull, a wrong Cut too, and changes nothing.
func TestWithoutPower(t *testing.T) {
	for _, k := range eachKind() {
		d := laid(t, 8, "ab", "cd")
		d.Arm(1)
		answers(t, "P12.2: Sync", d.Sync(), api.ErrFull)
		for i := range 3 {
			name := fmt.Sprintf("P12.2: without power: %s, call %d", k.name, i)
			answers(t, name, k.call(d), api.ErrFull)
			tells(t, name, d, "abcd", 2, true)
		}
		d.Crash(1)
		tells(t, "P12.2: without power: "+k.name+", behind a Crash", d, "abc", 3, false)
		room(t, "P12.2: without power: "+k.name+", behind a Crash", d, 5)
	}
}

// P12.2: the Append at which power goes puts its bytes, no later one does.
func TestNoSecondAppend(t *testing.T) {
	d := made(t, 9)
	d.Arm(1)
	answers(t, "P12.2: Append(ab)", d.Append([]byte("ab")), api.ErrFull)
	answers(t, "P12.2: Append(cd)", d.Append([]byte("cd")), api.ErrFull)
	tells(t, "P12.2: two Appends", d, "ab", 0, true)
	d.Crash(9)
	tells(t, "P12.2: two Appends, Crash", d, "ab", 2, false)
}

// P12.2: Arm of each number and each number of calls ahead of it; below 1 power goes at none.
func TestArm(t *testing.T) {
	for _, n := range []int{math.MinInt, math.MinInt + 1, -2, -1, 0, 1, 2, 3, 4, 5, 20, 39, 40, 41, math.MaxInt - 1, math.MaxInt} {
		d := made(t, 99)
		d.Arm(n)
		all := ""
		for call := 1; call <= 40; call++ {
			name := fmt.Sprintf("P12.2: Arm(%d), Append number %d", n, call)
			want := api.OK
			if n >= 1 && call >= n {
				want = api.ErrFull
			}
			if n < 1 || call <= n {
				all += "x"
			}
			answers(t, name, d.Append([]byte("x")), want)
			tells(t, name, d, all, 0, want != api.OK)
		}
	}
}

// P12.2: the last Arm holds, and counts from itself on.
func TestTheLastArmHolds(t *testing.T) {
	const calls = 9
	for first := -1; first < 6; first++ {
		for between := range 5 {
			for second := -1; second < 6; second++ {
				if first >= 1 && between >= first {
					continue // power is gone by then
				}
				d := made(t, 99)
				d.Arm(first)
				for range between {
					answers(t, "P12.2: Sync ahead of the n-th", d.Sync(), api.OK)
				}
				d.Arm(second)
				for call := 1; call < calls; call++ {
					goes := second >= 1 && call >= second
					d.Sync()
					if d.Down() != goes {
						t.Errorf("P12.2: Arm(%d), %d calls, Arm(%d), %d calls: Down %v", first, between, second, call, !goes)
					}
				}
			}
		}
	}
	d := made(t, 9)
	for range 20 {
		d.Arm(2)
		answers(t, "P12.2: one call behind each Arm(2)", d.Sync(), api.OK)
	}
	answers(t, "P12.2: the second behind the last Arm(2)", d.Sync(), api.ErrFull)
}

// P12.2: an Arm without power arms nothing, and brings no power.
func TestArmWithoutPower(t *testing.T) {
	for _, n := range []int{math.MinInt, -1, 0, 1, 2, 3, math.MaxInt} {
		d := laid(t, 9, "ab", "cd")
		d.Arm(1)
		d.Sync()
		d.Arm(n)
		tells(t, fmt.Sprintf("P12.2: Arm(%d) without power", n), d, "abcd", 2, true)
		answers(t, fmt.Sprintf("P12.2: Sync behind Arm(%d) without power", n), d.Sync(), api.ErrFull)
		d.Arm(n)
		d.Crash(2)
		for range 9 {
			answers(t, fmt.Sprintf("P12.2: Sync behind Arm(%d) without power and a Crash", n), d.Sync(), api.OK)
		}
	}
}

// P12.2: Grow, and what tells, count for no Arm.
func TestWhatCountsForNoArm(t *testing.T) {
	d := laid(t, 9, "ab", "cd")
	d.Arm(2)
	for range 5 {
		tells(t, "P12.2: asked often", d, "abcd", 2, false)
		if !d.Grow(10) || d.Grow(3) || d.Grow(-1) {
			t.Error("P12.1: Grow")
		}
		answers(t, "P12.2: a wrong Cut", d.Cut(5), api.ErrArg)
	}
	answers(t, "P12.2: the first call", d.Sync(), api.OK)
	for range 5 {
		tells(t, "P12.2: asked often", d, "abcd", 4, false)
		if !d.Grow(10) || d.Grow(3) {
			t.Error("P12.1: Grow")
		}
	}
	answers(t, "P12.2: the second call", d.Sync(), api.ErrFull)
}

// P12.1, P12.2: Grow needs no power: the limit is this one behind a Crash, too.
func TestGrowWithoutPower(t *testing.T) {
	for _, limit := range append(farOff(), -1, 0, 1, 3, 4, 5, 8, 100, api.MaxDisk, api.MaxDisk+1) {
		d := laid(t, 8, "ab", "cd")
		d.Arm(1)
		d.Sync()
		name := fmt.Sprintf("P12.1: Grow(%d) without power", limit)
		want := limit >= 4 && limit <= api.MaxDisk
		if d.Grow(limit) != want {
			t.Errorf("%s: not %v", name, want)
		}
		tells(t, name, d, "abcd", 2, true)
		answers(t, name+": Append", d.Append([]byte("x")), api.ErrFull)
		tells(t, name, d, "abcd", 2, true)
		d.Crash(1)
		tells(t, name+", behind a Crash", d, "abc", 3, false)
		if !want {
			limit = 8
		}
		room(t, name+", behind a Crash", d, limit-3)
	}
}

// P12.2: Grow ahead of the Append at which power goes is what it goes by.
func TestGrowAheadOfTheLastAppend(t *testing.T) {
	for limit := 4; limit < 8; limit++ {
		d := laid(t, 5, "ab", "cd")
		d.Arm(1)
		if !d.Grow(limit) {
			t.Errorf("P12.1: Grow(%d)", limit)
		}
		answers(t, "P12.2: Append(xy)", d.Append([]byte("xy")), api.ErrFull)
		all := "abcd"
		if limit >= 6 {
			all = "abcdxy"
		}
		tells(t, fmt.Sprintf("P12.2: Append of two to 4 of %d, power goes", limit), d, all, 2, true)
	}
}

// P12.2: Down is false ahead, true from the n-th call on, false behind a Crash, again and again.
func TestDown(t *testing.T) {
	d := made(t, 99)
	for range 3 {
		d.Arm(2)
		for call, want := range []bool{false, true, true, true} {
			d.Append([]byte("x"))
			if d.Down() != want || d.Down() != want {
				t.Errorf("P12.2: Down behind call %d: not %v", call+1, want)
			}
		}
		d.Crash(0)
		if d.Down() {
			t.Error("P12.2: Down behind a Crash")
		}
	}
}
