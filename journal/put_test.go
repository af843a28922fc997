package journal_test

import (
	"fmt"
	"strings"
	"testing"

	"broadsheet/api"
)

// P13.1: how a record lies, by bytes that are written out.
func TestHowARecordLies(t *testing.T) {
	for _, c := range []struct{ rec, all string }{
		{"", "\x00\x00\x00\x00\xff\xff\xff\xff"},
		{"a", "\x00\x00\x00\x01\xff\xff\xff\xfea"},
		{"abc", "\x00\x00\x00\x03\xff\xff\xff\xfcabc"},
		{"\x00\xff", "\x00\x00\x00\x02\xff\xff\xff\xfd\x00\xff"},
		{string(noise(255)), "\x00\x00\x00\xff\xff\xff\xff\x00" + string(noise(255))},
		{string(noise(256)), "\x00\x00\x01\x00\xff\xff\xfe\xff" + string(noise(256))},
		{string(noise(4660)), "\x00\x00\x12\x34\xff\xff\xed\xcb" + string(noise(4660))},
		{string(noise(65535)), "\x00\x00\xff\xff\xff\xff\x00\x00" + string(noise(65535))},
	} {
		put, added := made(t, api.MaxDisk), made(t, api.MaxDisk)
		j, k := opened(t, "P13.2", put), opened(t, "P13.2", added)
		name := fmt.Sprintf("P13.1: a record of %d bytes", len(c.rec))
		answers(t, name+": Put", j.Put([]byte(c.rec)), api.OK)
		tells(t, name+": Put", put, c.all, 0, false)
		answers(t, name+": Add", k.Add([]byte(c.rec)), api.OK)
		tells(t, name+": Add", added, c.all, len(c.all), false)
	}
}

// P13.2: Put, Sync, Add and Count, with how the disk is behind each call.
func TestPutSyncAddCount(t *testing.T) {
	d := made(t, 999)
	j := opened(t, "P13.2", d)
	answers(t, "P13.2: Sync of nothing", j.Sync(), api.OK)
	tells(t, "P13.2: Sync of nothing", d, "", 0, false)
	counts(t, "P13.2: Sync of nothing", j, 0)
	answers(t, "P13.2: Put", j.Put([]byte("ab")), api.OK)
	tells(t, "P13.2: Put", d, lies("ab"), 0, false)
	counts(t, "P13.2: Put", j, 1)
	answers(t, "P13.2: Put", j.Put([]byte("cde")), api.OK)
	tells(t, "P13.2: two Puts", d, lies("ab", "cde"), 0, false)
	counts(t, "P13.2: two Puts", j, 2)
	answers(t, "P13.2: Sync", j.Sync(), api.OK)
	tells(t, "P13.2: Sync", d, lies("ab", "cde"), 21, false)
	counts(t, "P13.2: Sync", j, 2)
	answers(t, "P13.2: Put", j.Put([]byte("f")), api.OK)
	tells(t, "P13.2: Put behind a Sync", d, lies("ab", "cde", "f"), 21, false)
	answers(t, "P13.2: Add", j.Add([]byte("gh")), api.OK)
	tells(t, "P13.2: Add syncs what was put, too", d, lies("ab", "cde", "f", "gh"), 40, false)
	counts(t, "P13.2: Add", j, 4)
	opened(t, "P13.1", d, "ab", "cde", "f", "gh")
}

// P13.2, R4: records of no bytes, nil and empty, count and lie alike.
func TestRecordsOfNoBytes(t *testing.T) {
	for i, rec := range [][]byte{nil, {}, noise(9)[:0]} {
		d := made(t, 99)
		j := opened(t, "P13.2", d)
		name := fmt.Sprintf("P13.2: no bytes, case %d", i)
		answers(t, name, j.Put(rec), api.OK)
		tells(t, name, d, lies(""), 0, false)
		answers(t, name, j.Add(rec), api.OK)
		tells(t, name, d, lies("", ""), 16, false)
		counts(t, name, j, 2)
		opened(t, name, d, "", "")
	}
}

// P13.2: records of each length near the limit: ErrLong above it, the disk and Count as they were, ahead of what the disk would refuse.
func TestTheLongestRecord(t *testing.T) {
	d := made(t, api.MaxDisk)
	j := opened(t, "P13.2", d)
	var recs []string
	for _, n := range []int{65534, 65535, 65536, 65537, 65544, 1 << 17, 1 << 20, 1<<20 + 1, 3 << 20, 65535} {
		rec := noise(n)
		want, name := api.OK, fmt.Sprintf("P13.2: %d bytes", n)
		if n > api.MaxRecord {
			want = api.ErrLong
		}
		for i, put := range []func([]byte) api.Errno{j.Put, j.Add} {
			if want == api.OK {
				recs = append(recs, string(rec))
			}
			was := d.Synced()
			answers(t, name, put(rec), want)
			if want == api.OK && i == 1 {
				was = d.Size()
			}
			tells(t, name, d, lies(recs...), was, false)
			counts(t, name, j, len(recs))
		}
	}
	opened(t, "P13.1: the longest", d, recs...)
}

// P13.2, R8: ErrLong ahead of ErrFull: of a full disk, of a disk of nothing, and without power.
func TestLongAheadOfFull(t *testing.T) {
	long := make([]byte, 65536)
	for _, limit := range []int{0, 9, 100, 65536, 65543} {
		d := made(t, limit)
		j := opened(t, "P13.2", d)
		for range 2 {
			answers(t, "R8: Put", j.Put(long), api.ErrLong)
			answers(t, "R8: Add", j.Add(long), api.ErrLong)
			tells(t, "R8: ErrLong", d, "", 0, d.Down())
			d.Arm(1)
			d.Sync()
		}
		if limit < 65543 {
			d.Crash(0)
			answers(t, "P13.2: one less", opened(t, "P13.2", d).Put(long[1:]), api.ErrFull)
		}
	}
}

// P13.2: just what fits, and one byte more than fits, behind any records.
func TestJustWhatFits(t *testing.T) {
	for _, recs := range append(rows(), nil) {
		front := lies(recs...)
		for room := range 40 {
			for _, add := range []bool{false, true} {
				d := holding(t, front, len(front))
				if !d.Grow(len(front) + room) {
					t.Fatal("P12.1: Grow")
				}
				j := opened(t, "P13.2", d, recs...)
				put, synced := j.Put, len(front)
				if add {
					put = j.Add
				}
				name := fmt.Sprintf("P13.2: room of %d, by Add: %v", room, add)
				more := strings.Repeat("x", max(room-7, 0))
				answers(t, name+": one byte more", put([]byte(more)), api.ErrFull)
				tells(t, name+": one byte more", d, front, synced, false)
				counts(t, name+": one byte more", j, len(recs))
				if room < 8 {
					continue
				}
				fits := more[1:]
				answers(t, name+": what fits", put([]byte(fits)), api.OK)
				all := front + lies(fits)
				if add {
					synced = len(all)
				}
				tells(t, name+": what fits", d, all, synced, false)
				counts(t, name+": what fits", j, len(recs)+1)
				answers(t, name+": behind it", put(nil), api.ErrFull)
				answers(t, name+": Sync of a full disk", j.Sync(), api.OK)
				tells(t, name+": Sync of a full disk", d, all, len(all), false)
			}
		}
	}
}

// P13.2: a smaller record may fit where a greater one was refused, and more where the disk grew.
func TestGoesOnBehindARefusal(t *testing.T) {
	d := made(t, 20)
	j := opened(t, "P13.2", d)
	answers(t, "P13.2: too much", j.Add([]byte("0123456789abc")), api.ErrFull)
	answers(t, "P13.2: less", j.Add([]byte("0123")), api.OK)
	answers(t, "P13.2: nothing", j.Put(nil), api.OK)
	answers(t, "P13.2: full", j.Put(nil), api.ErrFull)
	if !d.Grow(40) {
		t.Error("P12.1: Grow")
	}
	answers(t, "P13.2: grown", j.Add([]byte("abc")), api.OK)
	counts(t, "P13.2: refusals between", j, 3)
	tells(t, "P13.2: refusals between", d, lies("0123", "", "abc"), 31, false)
	opened(t, "P13.1: refusals between", d, "0123", "", "abc")
}

// P13.1, P13.2: a disk that is filled by records to its last byte.
func TestFilledDisk(t *testing.T) {
	d := made(t, api.MaxDisk)
	j := opened(t, "P13.2", d)
	var recs []string
	for i := 0; ; i++ {
		rec := noise(i * 97 % 5000)
		why := j.Put(rec)
		if why != api.OK {
			answers(t, "P13.2: a filled disk", why, api.ErrFull)
			break
		}
		recs = append(recs, string(rec))
	}
	rest := api.MaxDisk - d.Size()
	for ; rest >= 8; rest = api.MaxDisk - d.Size() {
		answers(t, "P13.2: the rest", j.Put(noise(rest-8)), api.OK)
		recs = append(recs, string(noise(rest-8)))
	}
	counts(t, "P13.2: a filled disk", j, len(recs))
	answers(t, "P13.2: Sync", j.Sync(), api.OK)
	tells(t, "P13.2: a filled disk", d, lies(recs...), d.Size(), false)
	opened(t, "P13.1: a filled disk", d, recs...)
}

// P13.2: journals opened again and again, with records between: each reads all, and goes on.
func TestOpenedAgainAndAgain(t *testing.T) {
	d := made(t, 9999)
	var recs []string
	for i := range 40 {
		j := opened(t, "P13.1: again", d, recs...)
		for k := range i % 4 {
			rec := string(noise(7*i + k))
			put := j.Put
			if (i+k)%2 == 0 {
				put = j.Add
			}
			answers(t, "P13.2: between", put([]byte(rec)), api.OK)
			recs = append(recs, rec)
			counts(t, "P13.2: between", j, len(recs))
		}
		if string(d.Bytes()) != lies(recs...) {
			t.Fatalf("P13.1: the disk has unlike bytes behind %d times", i)
		}
	}
}

// P13.2, P13.1: what was put is read back, whatever its bytes are, those of heads, too.
func TestWhatWasPutIsReadBack(t *testing.T) {
	var recs []string
	for b := range 256 {
		recs = append(recs, strings.Repeat(string([]byte{byte(b)}), b%20))
	}
	recs = append(recs, strange()...)
	recs = append(recs, torn()...)
	recs = append(recs, lies("a", "b"), head(65536), head(1<<32-1))
	d := made(t, api.MaxDisk)
	j := opened(t, "P13.2", d)
	for i, rec := range recs {
		answers(t, "P13.2: Put", j.Put([]byte(rec)), api.OK)
		counts(t, "P13.2: Put", j, i+1)
	}
	opened(t, "P13.1: read back", d, recs...)
}
