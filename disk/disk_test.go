package disk_test

import (
	"fmt"
	"math"
	"testing"

	"broadsheet/api"
	"broadsheet/disk"
)

// The chapter's run.
func TestRun(t *testing.T) {
	d := made(t, 9)
	answers(t, "the run: Append(abc)", d.Append([]byte("abc")), api.OK)
	answers(t, "the run: Sync", d.Sync(), api.OK)
	answers(t, "the run: Append(de)", d.Append([]byte("de")), api.OK)
	d.Crash(1)
	tells(t, "the run", d, "abcd", 4, false)
}

// The chapter's examples.
func TestExamples(t *testing.T) {
	if d, why := disk.New(-1); d != nil || why != api.ErrArg {
		t.Errorf("example 1: New(-1): %v, %v", d, why)
	}
	d := made(t, 9)
	d.Arm(1)
	answers(t, "example 2: Append(a)", d.Append([]byte("a")), api.ErrFull)
	d.Crash(1)
	tells(t, "example 2", d, "a", 1, false)
}

// P12.1: a limit is 0 to MaxDisk, and nothing is on a new disk.
func TestNew(t *testing.T) {
	for _, limit := range append(farOff(), -2, -1, api.MaxDisk+1, api.MaxDisk+2) {
		if d, why := disk.New(limit); d != nil || why != api.ErrArg {
			t.Errorf("P12.1: New(%d): %v, %v", limit, d, why)
		}
	}
	for _, limit := range []int{0, 1, 2, 100, api.MaxDisk - 1, api.MaxDisk} {
		d := made(t, limit)
		tells(t, fmt.Sprintf("P12.1: New(%d)", limit), d, "", 0, false)
		room(t, fmt.Sprintf("P12.1: New(%d)", limit), d, limit)
		tells(t, fmt.Sprintf("P12.1: New(%d), filled", limit), d, string(noise(limit)), 0, false)
	}
}

// P12.1: Append puts its bytes behind all, and syncs none.
func TestAppend(t *testing.T) {
	d := made(t, 20)
	for i, c := range []struct{ b, all string }{
		{"a", "a"}, {"bcd", "abcd"}, {"", "abcd"}, {"\x00", "abcd\x00"}, {"\xff\x00\n", "abcd\x00\xff\x00\n"}, {"abcd", "abcd\x00\xff\x00\nabcd"},
	} {
		answers(t, fmt.Sprintf("P12.1: Append number %d", i), d.Append([]byte(c.b)), api.OK)
		tells(t, fmt.Sprintf("P12.1: behind Append number %d", i), d, c.all, 0, false)
	}
	answers(t, "P12.1: Sync", d.Sync(), api.OK)
	answers(t, "P12.1: Append", d.Append([]byte("x")), api.OK)
	tells(t, "P12.1: Append behind a Sync", d, "abcd\x00\xff\x00\nabcdx", 12, false)
}

// P12.1: all bytes that there are, and each length.
func TestAppendOfEachLength(t *testing.T) {
	d := made(t, api.MaxDisk)
	want := ""
	for n := range 300 {
		b := noise(n)
		for i := range b {
			b[i] += byte(n)
		}
		answers(t, fmt.Sprintf("P12.1: Append of %d bytes", n), d.Append(b), api.OK)
		want += string(b)
		tells(t, fmt.Sprintf("P12.1: behind Append of %d bytes", n), d, want, 0, false)
	}
}

// P12.1, R4: Append of nothing changes nothing, and is taken by a full disk too; nil is nothing.
func TestAppendOfNothing(t *testing.T) {
	for _, none := range [][]byte{nil, {}, noise(9)[:0]} {
		for _, limit := range []int{0, 3, 4} {
			d := made(t, limit)
			answers(t, "P12.1: Append of nothing", d.Append(none), api.OK)
			tells(t, "P12.1: Append of nothing, to nothing", d, "", 0, false)
			all := "abc"[:min(limit, 3)]
			answers(t, "P12.1: Append", d.Append([]byte(all)), api.OK)
			answers(t, "P12.1: Append of nothing", d.Append(none), api.OK)
			tells(t, "P12.1: Append of nothing, to something", d, all, 0, false)
			d.Sync()
			answers(t, "P12.1: Append of nothing", d.Append(none), api.OK)
			tells(t, "P12.1: Append of nothing, all synced", d, all, len(all), false)
		}
	}
}

// P12.1: what does not fit is refused whole, and changes nothing.
func TestAppendThatDoesNotFit(t *testing.T) {
	far := noise(2 * api.MaxDisk)
	for limit := range 12 {
		for has := range limit + 1 {
			for synced := range has + 1 {
				name := fmt.Sprintf("P12.1: limit %d, %d there, %d synced", limit, has, synced)
				all := string(noise(has))
				d := laid(t, limit, all[:synced], all[synced:])
				for more := 1; more < 4; more++ {
					answers(t, name+": too much", d.Append(noise(limit-has+more)), api.ErrFull)
					tells(t, name+": behind too much", d, all, synced, false)
				}
				answers(t, name+": far too much", d.Append(far), api.ErrFull)
				tells(t, name+": behind far too much", d, all, synced, false)
				room(t, name, d, limit-has)
				tells(t, name+": full", d, all+string(noise(limit-has)), synced, false)
				answers(t, name+": full: one byte more", d.Append([]byte{0}), api.ErrFull)
			}
		}
	}
}

// P12.1: a disk of nothing takes nothing.
func TestDiskOfNothing(t *testing.T) {
	d := made(t, 0)
	answers(t, "P12.1: limit 0: Append of a byte", d.Append([]byte{0}), api.ErrFull)
	tells(t, "P12.1: limit 0", d, "", 0, false)
	answers(t, "P12.1: limit 0: Sync", d.Sync(), api.OK)
	answers(t, "P12.1: limit 0: Cut(0)", d.Cut(0), api.OK)
	answers(t, "P12.1: limit 0: Cut(1)", d.Cut(1), api.ErrArg)
	d.Crash(1)
	tells(t, "P12.1: limit 0, behind all", d, "", 0, false)
	if !d.Grow(1) {
		t.Error("P12.1: limit 0: Grow(1)")
	}
	room(t, "P12.1: limit 0, grown to 1", d, 1)
}

// P12.1: the greatest disk is filled in pieces to its last byte.
func TestGreatestDisk(t *testing.T) {
	d := made(t, api.MaxDisk)
	all := string(noise(api.MaxDisk))
	pieces := []int{0, 1, 65535, 65536, 1 << 19, api.MaxDisk - 1, api.MaxDisk}
	for i := 1; i < len(pieces); i++ {
		answers(t, fmt.Sprintf("P12.1: up to %d bytes", pieces[i]), d.Append([]byte(all[pieces[i-1]:pieces[i]])), api.OK)
		tells(t, fmt.Sprintf("P12.1: %d bytes", pieces[i]), d, all[:pieces[i]], pieces[i-1], false)
		answers(t, "P12.1: Sync", d.Sync(), api.OK)
	}
	answers(t, "P12.1: one byte more than MaxDisk", d.Append([]byte{0}), api.ErrFull)
	if d.Grow(api.MaxDisk+1) || !d.Grow(api.MaxDisk) || d.Grow(api.MaxDisk-1) {
		t.Error("P12.1: Grow of a full disk")
	}
	tells(t, "P12.1: full", d, all, api.MaxDisk, false)
	answers(t, "P12.1: Cut of the last byte", d.Cut(api.MaxDisk-1), api.OK)
	tells(t, "P12.1: full, cut", d, all[:api.MaxDisk-1], api.MaxDisk-1, false)
	room(t, "P12.1: full, cut", d, 1)
}

// P12.1: Sync: all is synced, nothing too, and a second one changes nothing.
func TestSync(t *testing.T) {
	d := made(t, 30)
	all := ""
	for _, more := range []string{"", "a", "", "bcd", "e", "fghijkl"} {
		answers(t, "P12.1: Append", d.Append([]byte(more)), api.OK)
		was := len(all)
		all += more
		tells(t, "P12.1: ahead of a Sync", d, all, was, false)
		for range 2 {
			answers(t, "P12.1: Sync", d.Sync(), api.OK)
			tells(t, "P12.1: behind a Sync", d, all, len(all), false)
		}
	}
	for range 2 {
		answers(t, "P12.1: Append", d.Append([]byte("xy")), api.OK)
	}
	answers(t, "P12.1: Sync", d.Sync(), api.OK)
	tells(t, "P12.1: a Sync of several Appends", d, all+"xyxy", len(all)+4, false)
}

// P12.1: Cut of each number that is right: the first n bytes stay, all synced, wherever the synced ones ended; Append goes on just there.
func TestCut(t *testing.T) {
	const all = "abcdefg"
	for synced := range len(all) + 1 {
		for n := range len(all) + 1 {
			name := fmt.Sprintf("P12.1: Cut(%d), %d synced", n, synced)
			d := laid(t, 9, all[:synced], all[synced:])
			answers(t, name, d.Cut(n), api.OK)
			tells(t, name, d, all[:n], n, false)
			answers(t, name+": Append", d.Append([]byte("XY")), api.OK)
			tells(t, name+", behind an Append", d, all[:n]+"XY", n, false)
			room(t, name+", behind an Append", d, 9-n-2)
			d.Crash(0)
			tells(t, name+", behind a Crash", d, all[:n], n, false)
		}
	}
}

// P12.1: Cut of a number below 0 or above Size is refused, and changes nothing.
func TestCutOfWrongNumbers(t *testing.T) {
	for size := range 5 {
		for synced := range size + 1 {
			all := "abcd"[:size]
			d := laid(t, 9, all[:synced], all[synced:])
			for _, n := range append(farOff(), -2, -1, size+1, size+2, 9, 10, api.MaxDisk) {
				name := fmt.Sprintf("P12.1: Cut(%d) of %d, %d synced", n, size, synced)
				answers(t, name, d.Cut(n), api.ErrArg)
				tells(t, name, d, all, synced, false)
			}
			d.Crash(math.MaxInt)
			tells(t, "P12.1: behind wrong Cuts and a Crash", d, all, size, false)
			room(t, "P12.1: behind wrong Cuts", d, 9-size)
		}
	}
}

// P12.1: Cut again and again; what was cut away never comes back.
func TestCutAgain(t *testing.T) {
	d := laid(t, 9, "abc", "def")
	for n := 6; n >= 0; n-- {
		answers(t, "P12.1: Cut", d.Cut(n), api.OK)
		tells(t, fmt.Sprintf("P12.1: cut to %d", n), d, "abcdef"[:n], n, false)
		answers(t, "P12.1: Cut", d.Cut(n+1), api.ErrArg)
		if !d.Grow(9 + n) {
			t.Errorf("P12.1: Grow(%d)", 9+n)
		}
		d.Crash(9)
		tells(t, fmt.Sprintf("P12.1: cut to %d, behind a Crash", n), d, "abcdef"[:n], n, false)
	}
}

// P12.1: Grow takes Size to MaxDisk, and from then on this is what Append goes by.
func TestGrow(t *testing.T) {
	for size := range 5 {
		for synced := range size + 1 {
			all := "abcd"[:size]
			for _, limit := range []int{size, size + 1, 5, 6, 7, 100, api.MaxDisk - 1, api.MaxDisk} {
				name := fmt.Sprintf("P12.1: Grow(%d), %d there, %d synced", limit, size, synced)
				d := laid(t, 6, all[:synced], all[synced:])
				if !d.Grow(limit) {
					t.Errorf("%s: false", name)
				}
				tells(t, name, d, all, synced, false)
				room(t, name, d, limit-size)
				tells(t, name+", filled", d, all+string(noise(limit-size)), synced, false)
			}
		}
	}
}

// P12.1: Grow of anything else is false, and the limit is as it was.
func TestGrowOfWrongNumbers(t *testing.T) {
	for size := range 5 {
		wrong := append(farOff(), -2, -1, api.MaxDisk+1, api.MaxDisk+2)
		for n := range size {
			wrong = append(wrong, n)
		}
		for _, limit := range wrong {
			name := fmt.Sprintf("P12.1: Grow(%d), %d there", limit, size)
			d := laid(t, 6, "abcd"[:size/2], "abcd"[size/2:size])
			if d.Grow(limit) {
				t.Errorf("%s: true", name)
			}
			tells(t, name, d, "abcd"[:size], size/2, false)
			room(t, name, d, 6-size)
		}
	}
}

// P12.1: the last Grow that is taken holds, a lesser one too; what Cut and Crash leave is what Grow goes by.
func TestGrowAgain(t *testing.T) {
	d := laid(t, 4, "ab", "cd")
	for _, c := range []struct {
		limit int
		want  bool
	}{{3, false}, {4, true}, {8, true}, {5, true}, {3, false}, {6, true}} {
		if d.Grow(c.limit) != c.want {
			t.Errorf("P12.1: Grow(%d): not %v", c.limit, c.want)
		}
	}
	answers(t, "P12.1: three bytes more than 4 of 6", d.Append([]byte("efg")), api.ErrFull)
	answers(t, "P12.1: two bytes more than 4 of 6", d.Append([]byte("ef")), api.OK)
	d.Crash(0)
	if d.Grow(1) || !d.Grow(2) {
		t.Error("P12.1: Grow behind a Crash")
	}
	answers(t, "P12.1: Append to a full disk", d.Append([]byte("x")), api.ErrFull)
	answers(t, "P12.1: Cut", d.Cut(1), api.OK)
	if d.Grow(0) || !d.Grow(1) {
		t.Error("P12.1: Grow behind a Cut")
	}
	tells(t, "P12.1: behind all", d, "a", 1, false)
	answers(t, "P12.1: Append to a full disk", d.Append([]byte("x")), api.ErrFull)
}
