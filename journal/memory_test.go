package journal_test

import (
	"bytes"
	"fmt"
	"testing"

	"broadsheet/api"
	"broadsheet/journal"
)

// R2, R5: what is handed to Put and Add is not changed, nor the room behind it, taken and refused, with power and without.
func TestPutLeavesWhatItIsGiven(t *testing.T) {
	for n := range 20 {
		for armed := range 4 {
			d := made(t, 60)
			j := opened(t, "R2", d)
			d.Arm(armed)
			rec := roomy(noise(n))
			was := bytes.Clone(rec[:cap(rec)])
			for _, call := range []func([]byte) api.Errno{j.Put, j.Add, j.Put, j.Add} {
				call(rec)
				j.Sync()
				if !bytes.Equal(rec[:cap(rec)], was) {
					t.Fatalf("R2: a record of %d bytes was changed", n)
				}
			}
		}
	}
	long := roomy(noise(65536))
	was := bytes.Clone(long[:cap(long)])
	j := opened(t, "R2", made(t, 9))
	j.Put(long)
	j.Add(long)
	if !bytes.Equal(long[:cap(long)], was) {
		t.Error("R2: a record that is too long was changed")
	}
}

// R2: what was handed to Put and Add, and the room behind it, may be changed afterwards: no later answer changes.
func TestPutKeepsNothing(t *testing.T) {
	for n := range 40 {
		d := made(t, 999)
		j := opened(t, "R2", d)
		var want []string
		var given [][]byte
		for i, call := range []func([]byte) api.Errno{j.Put, j.Add, j.Put} {
			rec := roomy(noise(n + i))
			want = append(want, string(rec))
			answers(t, "P13.2", call(rec), api.OK)
			given = append(given, rec)
			for _, b := range given {
				spoil(b)
			}
			name := fmt.Sprintf("R2: records of %d bytes, spoilt", n)
			if string(d.Bytes()) != lies(want...) {
				t.Errorf("%s: %q", name, d.Bytes())
			}
			opened(t, name, d, want...)
		}
		answers(t, "P13.2: Sync", j.Sync(), api.OK)
		d.Crash(0)
		opened(t, "R2: spoilt, behind a Crash", d, want...)
	}
}

// R2: a record at whose Append power goes is kept by the disk alone.
func TestTheLastRecordKeepsNothing(t *testing.T) {
	d := made(t, 99)
	j := opened(t, "R2", d)
	d.Arm(1)
	rec := roomy([]byte("abc"))
	answers(t, "P13.2: Put where power goes", j.Put(rec), api.ErrFull)
	spoil(rec)
	d.Crash(99)
	spoil(rec)
	opened(t, "R2: spoilt", d, "abc")
}

// R2: what Open told, each record, the room behind it and the list, may be changed: no later answer changes.
func TestRecordsAreNewMemory(t *testing.T) {
	for _, recs := range rows() {
		for _, rest := range append(torn(), "") {
			d := holding(t, lies(recs...)+rest, 0)
			j, one, why := journal.Open(d)
			answers(t, "P13.1: Open", why, api.OK)
			_, other, _ := journal.Open(d)
			for _, rec := range one {
				spoil(rec)
			}
			clear(one[:cap(one)])
			same(t, "R2: two answers share memory", other, recs)
			if string(d.Bytes()) != lies(recs...) {
				t.Errorf("R2: the disk shares memory with an answer: %q", d.Bytes())
			}
			counts(t, "R2: spoilt", j, len(recs))
			answers(t, "P13.2: Add", j.Add([]byte("next")), api.OK)
			opened(t, "R2: spoilt", d, append(append([]string(nil), recs...), "next")...)
		}
	}
}

// R2: no two records of one answer share memory, their room neither.
func TestRecordsAreByThemselves(t *testing.T) {
	for _, recs := range rows() {
		_, got, _ := journal.Open(holding(t, lies(recs...), 0))
		for i, rec := range got {
			copied := make([]string, len(got))
			for k := range got {
				copied[k] = string(got[k])
			}
			spoil(rec)
			_ = append(rec, noise(9)...)
			for k := range got {
				if k != i && string(got[k]) != copied[k] {
					t.Errorf("R2: records %d and %d share memory", i, k)
				}
			}
		}
	}
}

// R2: what Open told does not change by later calls of any kind.
func TestRecordsStayAsTold(t *testing.T) {
	d := holding(t, lies("a", "", "bcd")+"torn", 4)
	j, got, _ := journal.Open(d)
	list := append(got, []byte("mine"))
	for i := range 20 {
		j.Put(noise(i))
		j.Add(noise(2 * i))
		journal.Open(d)
	}
	d.Crash(0)
	d.Cut(0)
	d.Append(bytes.Repeat([]byte("-"), 99))
	same(t, "R2: later calls", got, []string{"a", "", "bcd"})
	same(t, "R2: later calls", list, []string{"a", "", "bcd", "mine"})
}

// R2: what Open told may be put again.
func TestPutOfWhatWasTold(t *testing.T) {
	d := holding(t, lies("a", "", "bcd"), 0)
	j, got, _ := journal.Open(d)
	for _, rec := range got {
		answers(t, "P13.2: Put", j.Put(rec), api.OK)
	}
	opened(t, "R2: put again", d, "a", "", "bcd", "a", "", "bcd")
}

// R4: two journals on two disks side by side see nothing of each other, whatever is done to the one.
func TestJournalsAreByThemselves(t *testing.T) {
	steps := []step{
		{kind: doAdd, rec: "xyz"}, {kind: doPut, rec: "w"}, {kind: doPut}, {kind: doAdd, rec: "much more than this disk takes"}, {kind: doSync},
		{kind: doArm, n: 1}, {kind: doArm, n: 2}, {kind: doOpen}, {kind: doCrash, n: 9},
	}
	both := roomy([]byte("cd"))
	eachRow(steps, 3, func(row []step) bool {
		one, other := begun(t, "R4: the one", 40), begun(t, "R4: the other", 40)
		for _, b := range []*bench{one, other} {
			b.j.Put(both)
			b.a.put("cd")
		}
		for _, s := range row {
			if !one.plays(s) {
				return false
			}
			if !other.holds() {
				t.Errorf("R4: %v on another disk", row)
				return false
			}
		}
		return other.plays(step{kind: doAdd, rec: "ef"}, step{kind: doPut, rec: "gh"}, step{kind: doCrash, n: 3})
	})
}

// R4: by turns: each of three journals goes on as its own account says.
func TestJournalsByTurns(t *testing.T) {
	all := []*bench{begun(t, "R4: first", 900), begun(t, "R4: second", 300), begun(t, "R4: third", 60)}
	for i := range 60 {
		for k, b := range all {
			s := []step{{kind: doAdd, rec: fmt.Sprint("record", i)}, {kind: doPut, rec: fmt.Sprint(k)}, {kind: doArm, n: k + 2}, {kind: doSync}, {kind: doCrash, n: i % 12}}[(i+k)%5]
			if !b.plays(s) {
				return
			}
		}
	}
}
