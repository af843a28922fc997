package journal_test

import (
	"fmt"
	"math/rand"
	"strings"
	"testing"

	"broadsheet/api"
)

// P13.1, R1: Open of nil.
func TestOpenOfNil(t *testing.T) {
	refused(t, "P13.1: nil", nil, api.ErrArg)
}

// P13.1: example 1: Open of nothing, on disks of any limit.
func TestOpenOfNothing(t *testing.T) {
	for _, limit := range []int{0, 1, 7, 8, 9, api.MaxDisk} {
		d := made(t, limit)
		opened(t, "P13.1: nothing", d)
		tells(t, "P13.1: nothing", d, "", 0, false)
	}
}

// P13.1: how records lie, by bytes that are written out.
func TestOpenOfWrittenBytes(t *testing.T) {
	for _, c := range []struct {
		all  string
		recs []string
	}{
		{"\x00\x00\x00\x00\xff\xff\xff\xff", []string{""}},
		{"\x00\x00\x00\x01\xff\xff\xff\xfea", []string{"a"}},
		{"\x00\x00\x00\x03\xff\xff\xff\xfcabc", []string{"abc"}},
		{"\x00\x00\x01\x02\xff\xff\xfe\xfd" + string(noise(258)), []string{string(noise(258))}},
		{"\x00\x00\xff\xff\xff\xff\x00\x00" + string(noise(65535)), []string{string(noise(65535))}},
		{"\x00\x00\x00\x01\xff\xff\xff\xfea\x00\x00\x00\x00\xff\xff\xff\xff\x00\x00\x00\x02\xff\xff\xff\xfdbc", []string{"a", "", "bc"}},
	} {
		d := holding(t, c.all, len(c.all))
		opened(t, "P13.1: written bytes", d, c.recs...)
		tells(t, "P13.1: written bytes", d, c.all, len(c.all), false)
	}
}

// P13.1: records of each length that is near an edge, alone, one behind the other, and again.
func TestOpenOfRecords(t *testing.T) {
	lengths := []int{0, 1, 2, 7, 8, 9, 127, 128, 255, 256, 257, 32767, 32768, 65280, 65534, 65535}
	for _, one := range lengths {
		for _, other := range lengths {
			first, second := string(noise(one)), strings.Repeat("x", other)
			for _, recs := range [][]string{{first}, {first, second}, {first, second, first}} {
				all := lies(recs...)
				d := holding(t, all, len(all))
				opened(t, fmt.Sprintf("P13.1: records of %d and %d bytes", one, other), d, recs...)
				tells(t, "P13.1: all are whole", d, all, len(all), false)
			}
		}
	}
}

// P13.1: as many records as a disk has room for.
func TestOpenOfManyRecords(t *testing.T) {
	for _, rec := range []string{"", "a", string(noise(24)), string(noise(65528))} {
		n := api.MaxDisk / (8 + len(rec))
		recs := make([]string, n)
		for i := range recs {
			recs[i] = rec
		}
		d := holding(t, lies(recs...), 0)
		opened(t, fmt.Sprintf("P13.1: %d records", n), d, recs...)
		tells(t, "P13.1: many records", d, lies(recs...), 0, false)
	}
}

// P13.1: a record's bytes may look like anything, like a head and a record, too.
func TestRecordsThatLookLikeRecords(t *testing.T) {
	inner := []string{lies("ab"), lies(""), head(9), head(65536), head(1)[:7], "\xff\xff\xff\xff\xff\xff\xff\xff", lies(lies("x", ""), "y")}
	for _, one := range inner {
		for _, other := range inner {
			all := lies(one, other)
			d := holding(t, all, len(all))
			opened(t, "P13.1: records in records", d, one, other)
		}
	}
}

// rows tells rows of records for tests that cut and turn them.
func rows() [][]string {
	return [][]string{
		{"ab"}, {""}, {"", ""}, {"a", "", "bcd"}, {"first", "second", ""}, {lies("in"), "behind"}, {string(noise(300)), "x"},
	}
}

// P13.1: cut off at each place, with nothing, some and all synced: what is left is torn.
func TestOpenOfWhatIsCutOff(t *testing.T) {
	for _, recs := range rows() {
		all := lies(recs...)
		for at := range len(all) + 1 {
			for _, synced := range []int{0, at / 2, at} {
				whole, n := "", 0
				for n < len(recs) && len(whole+lies(recs[n])) <= at {
					whole += lies(recs[n])
					n++
				}
				d := holding(t, all[:at], synced)
				name := fmt.Sprintf("P13.1: %q cut off at %d", recs, at)
				opened(t, name, d, recs[:n]...)
				if len(whole) < at {
					synced = len(whole)
				}
				tells(t, name, d, whole, synced, false)
			}
		}
	}
}

// P13.1: the longest record, cut off at places near its edges.
func TestOpenOfTheLongestCutOff(t *testing.T) {
	long := string(noise(api.MaxRecord))
	for _, ahead := range [][]string{nil, {"a"}, {long, ""}} {
		front := lies(ahead...)
		all := front + lies(long)
		for _, at := range []int{1, 7, 8, 9, 255, 256, 32768, 65534, 65535, 65541, 65542} {
			d := holding(t, all[:len(front)+at], len(front)+at)
			name := fmt.Sprintf("P13.1: the longest, %d bytes of it", at)
			opened(t, name, d, ahead...)
			tells(t, name, d, front, len(front), false)
		}
	}
}

// P13.1: a journal that cut a torn record away goes on just behind the last whole one.
func TestGoesOnBehindWhatWasTorn(t *testing.T) {
	for _, recs := range rows() {
		all := lies(recs...)
		for at := range len(all) + 1 {
			whole, _, _ := reads(all[:at])
			d := holding(t, all[:at], at)
			j := opened(t, "P13.1", d, whole...)
			answers(t, "P13.2: Add", j.Add([]byte("next")), api.OK)
			tells(t, "P13.2: Add behind what was torn", d, lies(append(whole, "next")...), len(lies(append(whole, "next")...)), false)
			opened(t, "P13.1: once more", d, append(whole, "next")...)
		}
	}
}

// P13.1: each byte turned in each of its bits, and in several.
func TestOpenOfTurnedBytes(t *testing.T) {
	masks := []byte{0xff, 0x03, 0x0f, 0xf0, 0x81, 0x55}
	for bit := range 8 {
		masks = append(masks, 1<<bit)
	}
	for _, recs := range rows() {
		all := lies(recs...)
		for at := range len(all) {
			for _, mask := range masks {
				b := []byte(all)
				b[at] ^= mask
				for _, synced := range []int{0, len(b)} {
					if !opensAsRead(t, fmt.Sprintf("P13.1: byte %d turned by %x", at, mask), string(b), synced) {
						return
					}
				}
			}
		}
	}
}

// P13.1: example 2: a byte turned in a length, or in its turned half: ErrCorrupt, the disk as it was, with whole records ahead of it and behind it.
func TestATurnedByteInALength(t *testing.T) {
	for _, c := range [][2]string{{"", ""}, {lies("a"), ""}, {"", lies("a")}, {lies("", "bc"), lies("d", "")}} {
		for _, rec := range []string{"", "a", "abc", string(noise(258))} {
			for at := range 8 {
				for mask := 1; mask < 256; mask++ {
					b := []byte(lies(rec))
					b[at] ^= byte(mask)
					all := c[0] + string(b) + c[1]
					d := holding(t, all, len(all)/2)
					refused(t, fmt.Sprintf("P13.1: byte %d turned by %x", at, mask), d, api.ErrCorrupt)
					tells(t, "P13.1: ErrCorrupt", d, all, len(all)/2, false)
				}
			}
		}
	}
}

// P13.1: a byte turned in a length and in its half alike is another length: shorter, what is left is read on from there; longer, it is torn or takes what follows.
func TestALengthTurnedWithItsHalf(t *testing.T) {
	for _, behind := range []string{"", lies("x"), lies("", "yz"), string(noise(700))} {
		for _, rec := range []string{"", "a", "abcdefgh", lies("ab"), string(noise(300))} {
			for at := range 4 {
				for mask := 1; mask < 256; mask++ {
					b := []byte(lies("ahead", rec))
					b[13+at] ^= byte(mask)
					b[17+at] ^= byte(mask)
					if !opensAsRead(t, fmt.Sprintf("P13.1: byte %d turned by %x in both halves", at, mask), string(b)+behind, len(b)) {
						return
					}
				}
			}
		}
	}
}

// P13.1: lengths at the limit, beyond it, and far beyond, with their right halves, with enough bytes behind and with too few.
func TestOpenOfGreatLengths(t *testing.T) {
	for _, ahead := range [][]string{nil, {"a", ""}} {
		front := lies(ahead...)
		for _, n := range []uint32{65536, 65537, 65791, 1 << 17, 1 << 20, 1 << 24, 1<<31 - 1, 1 << 31, 1<<31 + 2, 1<<32 - 65536, 1<<32 - 8, 1<<32 - 1} {
			for _, behind := range []int{0, 1, 7, 8, 65535, 65536, 65537, 1 << 17} {
				all := front + head(n) + string(noise(behind))
				d := holding(t, all, len(front))
				refused(t, fmt.Sprintf("P13.1: a length of %d, %d bytes behind it", n, behind), d, api.ErrCorrupt)
				tells(t, "P13.1: a length above MaxRecord", d, all, len(front), false)
			}
		}
		for _, behind := range []int{0, 1, 7, 8, 65534} {
			all := front + head(65535) + string(noise(behind))
			d := holding(t, all, len(all))
			opened(t, fmt.Sprintf("P13.1: MaxRecord, %d bytes behind it", behind), d, ahead...)
			tells(t, "P13.1: MaxRecord, too few", d, front, len(front), false)
		}
		long := string(noise(65535))
		opened(t, "P13.1: MaxRecord, just enough", holding(t, front+head(65535)+long, 0), append(ahead, long)...)
		d := holding(t, front+head(65535)+long+"rest", 0)
		opened(t, "P13.1: MaxRecord, more than enough", d, append(ahead, long)...)
		tells(t, "P13.1: MaxRecord, more than enough", d, front+lies(long), len(front)+65543, false)
	}
}

// strange tells rows of at least 24 bytes: such as a head has, such as it can't have, and others.
func strange() []string {
	return []string{
		strings.Repeat("\x00", 24), strings.Repeat("\xff", 24), "xyzxyzxyzxyzxyzxyzxyzxyz", string(noise(24)),
		"\x00\x00\x00\x02\x00\x00\x00\x02abababababababab", "\xff\xff\xff\xfd\x00\x00\x00\x02abababababababab",
		"\x02\x00\x00\x00\xfd\xff\xff\xffabababababababab", "\x00\x02\xff\xfd\x00\x00\x00\x00abababababababab",
		"\x00\x00\x00\x02\xff\xff\xff\xfeabababababababab", "\x00\x00\x00\x02\xfd\xff\xff\xffabababababababab",
		"\xff\xff\xff\xff\x00\x00\x00\x00abababababababab", "\x00\x00\x00\x02\x7f\xff\xff\xfdabababababababab",
	}
}

// P13.1: one to seven bytes of whatever kind behind the last record: torn.
func TestFewBytesOfAnyKindAreTorn(t *testing.T) {
	kinds := append(strange(), head(1), head(65535), head(65536), head(1<<32-1))
	for _, recs := range append(rows(), nil) {
		front := lies(recs...)
		for _, kind := range kinds {
			for n := 1; n < 8; n++ {
				d := holding(t, front+kind[:n], len(front))
				name := fmt.Sprintf("P13.1: %q behind the last", kind[:n])
				opened(t, name, d, recs...)
				tells(t, name, d, front, len(front), false)
			}
		}
	}
}

// P13.1: each single byte is torn, alone and behind a record.
func TestEachSingleByteIsTorn(t *testing.T) {
	for b := range 256 {
		one := string([]byte{byte(b)})
		opened(t, "P13.1: one byte", holding(t, one, 1))
		opened(t, "P13.1: one byte behind a record", holding(t, lies("ab")+one, 11), "ab")
	}
}

// P13.1: eight bytes and more that are no length: ErrCorrupt, also where whole records stand ahead of them.
func TestEightBytesThatAreNoLength(t *testing.T) {
	for _, recs := range append(rows(), nil) {
		front := lies(recs...)
		for _, kind := range strange() {
			for n := 8; n <= 24; n++ {
				all := front + kind[:n]
				d := holding(t, all, len(front))
				refused(t, fmt.Sprintf("P13.1: %q behind the last", kind[:n]), d, api.ErrCorrupt)
				tells(t, "P13.1: ErrCorrupt", d, all, len(front), false)
			}
		}
	}
}

// P13.1, W5: rows of all kinds of pieces are taken or refused as the chapter says.
func TestOpenOfAnything(t *testing.T) {
	r := rand.New(rand.NewSource(13))
	pieces := append(strange(), "", "a", "\x00", "\xff", lies(""), lies("a"), lies("abc"), lies("a", "", "b"), head(0), head(1), head(3), head(20), head(65535), head(65536), head(1<<32-1))
	for range 30000 {
		all := ""
		for range r.Intn(7) {
			piece := pieces[r.Intn(len(pieces))]
			if r.Intn(4) > 0 {
				piece = lies(piece)
			}
			if r.Intn(6) == 0 {
				piece = piece[:r.Intn(len(piece)+1)]
			}
			all += piece
		}
		if !opensAsRead(t, "P13.1, W5", all, r.Intn(len(all)+1)) {
			return
		}
	}
}
