package ledger_test

import (
	"bytes"
	"fmt"
	"math/rand"
	"slices"
	"testing"

	"broadsheet/api"
	"broadsheet/disk"
	"broadsheet/ledger"
)

// spoil writes over b and over the room behind it.
func spoil(b []byte) {
	b = b[:cap(b)]
	for i := range b {
		b[i] ^= 0x5a
	}
}

// spoilList writes over all that l reaches, the list itself last.
func spoilList(l [][]byte) {
	for _, b := range l[:cap(l)] {
		spoil(b)
	}
	clear(l[:cap(l)])
}

// spoilSigned writes over all that s reaches.
func spoilSigned(s api.Signed) {
	spoil(s.Check.Root)
	spoilList(s.Sig.Parts)
	spoilList(s.Sig.Path)
}

// wide tells the text with room behind it, in which there is something.
func wide(text string) []byte { return []byte(text + "behind it")[:len(text)] }

// wideList tells the items, each with room behind it, in a list with room behind it.
func wideList(items []string) [][]byte {
	list := make([][]byte, 0, len(items)+3)
	for _, item := range items {
		list = append(list, wide(item))
	}
	return append(list, wide("x"), wide("y"), wide("z"))[:len(items)]
}

// reach tells all bytes that l reaches, the room behind each text and behind the list, too, and where they lie.
func reach(l [][]byte) string {
	text := ""
	for _, b := range l[:cap(l)] {
		text += fmt.Sprintf("%d %d %p %x\n", len(b), cap(b), b, b[:cap(b)])
	}
	return text
}

// sheet is the whole room of a list, which is marked with a number and then looked at.
type sheet struct {
	mark func(n int)
	has  func(n int) bool
}

// sheetOf tells the sheet of any list, with the value of the n-th mark at the place i.
func sheetOf[T any](l []T, value func(n, i int) T, same func(a, b T) bool) sheet {
	l = l[:cap(l)]
	return sheet{
		mark: func(n int) {
			for i := range l {
				l[i] = value(n, i)
			}
		},
		has: func(n int) bool {
			for i := range l {
				if !same(l[i], value(n, i)) {
					return false
				}
			}
			return true
		},
	}
}

func sheetOfInts(l []int) sheet {
	return sheetOf(l, func(n, _ int) int { return n }, func(a, b int) bool { return a == b })
}

// sheetOfText tells the sheet of a text. A mark is two bytes, by turns: there are more lists than one byte has values.
func sheetOfText(b []byte) sheet {
	return sheetOf(b, func(n, i int) byte { return byte(n >> (8 * (i % 2))) }, func(a, b byte) bool { return a == b })
}

// sheetsOf tells the sheets of the texts of l, and of l itself.
func sheetsOf(l [][]byte) []sheet {
	value := func(n, _ int) []byte { return []byte{byte(n), byte(n >> 8)} }
	sheets := []sheet{sheetOf(l, value, func(a, b []byte) bool { return string(a) == string(b) })}
	for _, b := range l {
		sheets = append(sheets, sheetOfText(b))
	}
	return sheets
}

func sheetsOfSigned(s api.Signed) []sheet {
	return slices.Concat([]sheet{sheetOfText(s.Check.Root)}, sheetsOf(s.Sig.Parts), sheetsOf(s.Sig.Path))
}

// apart holds that no two of the lists share memory: each of them is marked, and then each has its own mark.
func apart(t *testing.T, name string, sheets []sheet) {
	t.Helper()
	for n, s := range sheets {
		s.mark(n + 1)
	}
	for n, s := range sheets {
		if !s.has(n + 1) {
			t.Errorf("R2: %s: list %d shares memory with another one", name, n)
			return
		}
	}
}

// R2: items that are handed in are not changed, taken or refused, nor the room behind them.
func TestItemsStay(t *testing.T) {
	long := string(make([]byte, 65530))
	for _, items := range [][]string{{"a"}, {"a", "", "b", "a"}, {"old", "c"}, {"old"}, named(0, 300), {"a", long}, {}, {""}} {
		for _, limit := range []int{15, 17, api.MaxDisk} {
			d := kept(t, written([]string{"old"}))
			d.Grow(max(limit, d.Size()))
			l := opened(t, "R2", d, roomy(t), []string{"old"}, 0)
			list := wideList(items)
			was := reach(list)
			l.Add(list...)
			for _, item := range list {
				l.Find(item)
			}
			if reach(list) != was {
				t.Errorf("R2: Add(%q) changed what was handed in", short(fmt.Sprint(items)))
			}
		}
	}
}

// R2: items, lists and seeds that were handed in may be written over without any later answer changing.
func TestNothingHandedInIsKept(t *testing.T) {
	by := newSigner(1)
	d, k := roomy(t), roomy(t)
	seed := wide(string(seedOf(1)))
	was := string(seed[:cap(seed)])
	l, why := ledger.Open(d, k, seed)
	answers(t, "R2: Open", why, api.OK)
	if string(seed[:cap(seed)]) != was {
		t.Error("R2: the seed is changed")
	}
	spoil(seed)
	items := []string{"a", "bb", "", "ccc"}
	for i := range items {
		list := wideList(items[:i+1])
		_, why := l.Add(list...)
		answers(t, "R2: Add", why, api.OK)
		spoilList(list)
		stands(t, "R2: items that are written over", l, items[:i+1])
		publishes(t, "R2: items and a seed that are written over", l, by, i, items[:i+1], 15-i)
	}
	if string(l.Public()) != string(by.public) {
		t.Error("R2: Public hangs on the seed that was handed in")
	}
	key := wide("bb")
	l.Find(key)
	spoil(key)
	stands(t, "R2: what was looked for is written over", l, items)
	opened(t, "R2: anew", d, k, items, 4)
}

// R2: disks' bytes that were told may be written over, ahead of Open and behind it.
func TestBytesOfDisksAreNotKept(t *testing.T) {
	items := []string{"a", "b"}
	d, k := diskOf(t, items), kept(t, used(2))
	spoil(d.Bytes())
	spoil(k.Bytes())
	l := opened(t, "R2", d, k, items, 2)
	spoil(d.Bytes())
	spoil(k.Bytes())
	stands(t, "R2: bytes of disks are written over", l, items)
	opened(t, "R2: anew", d, k, items, 2)
}

// R2: the disks are handed on, not copied: what is done to them is seen by the ledger.
func TestTheDisksAreHandedOn(t *testing.T) {
	by := newSigner(1)
	d, k := made(t, 0), made(t, 0)
	l := opened(t, "R2", d, k, nil, 0)
	addsNone(t, "R2: no room", l, []string{"a"}, api.ErrFull)
	publishesNone(t, "R2: no room", l, api.ErrFull)
	d.Grow(15)
	k.Grow(9)
	adds(t, "R2: room", l, []string{"a"}, 0)
	publishes(t, "R2: room", l, by, 0, []string{"a"}, 15)
	tells(t, "R2: room", d, written([]string{"a"}), 15, false)
	tells(t, "R2: room", k, used(1), 9, false)
}

// R2: all that was told may be written over without any later answer changing.
func TestAnswersAreNew(t *testing.T) {
	by := newSigner(1)
	d, k := roomy(t), roomy(t)
	l := opened(t, "R2", d, k, nil, 0)
	items := named(0, 9)
	leaves := hashes(items)
	roots := beginnings(leaves)
	spoils := func() {
		n, _ := l.Add(texts(items)...)
		clear(n[:cap(n)])
		for i := range l.Size() {
			b, _ := l.Entry(i)
			spoil(b)
		}
		spoil(l.Root())
		spoil(l.Public())
		s, _ := l.Publish()
		spoilSigned(s)
		s, _ = l.Last()
		spoilSigned(s)
		for size := range l.Size() + 1 {
			for i := range size {
				p, _ := l.Include(i, size)
				spoilList(p.Path)
				g, _ := l.Grow(i, size)
				spoilList(g.Path)
			}
		}
	}
	for range 4 {
		spoils()
		stands(t, "R2: answers that are written over", l, items)
		publishes(t, "R2: answers that are written over", l, by, 0, items, 15)
		if string(l.Public()) != string(by.public) {
			t.Error("R2: Public")
		}
		for size := range len(items) + 1 {
			for i := range size {
				includes(t, l, leaves, roots, i, size)
				grows(t, l, leaves, roots, i, size)
			}
		}
		adds(t, "R2: answers that are written over", l, items, upTo(0, 9)...)
	}
	opened(t, "R2: anew", d, k, items, 1)
}

// R2: the answer of a Publish that signs is by itself, too: written over at once, it is told again as it was.
func TestAFirstPublishIsByItself(t *testing.T) {
	by := newSigner(1)
	l, _ := begun(t, "R2")
	for n := range 3 {
		s, why := l.Publish()
		answers(t, "R2: Publish", why, api.OK)
		spoilSigned(s)
		lasts(t, "R2: a checkpoint that is written over", l, by, n, named(0, n))
		publishes(t, "R2: a checkpoint that is written over", l, by, n, named(0, n), 15-n)
		adds(t, "R2", l, named(n, 1), n)
	}
}

// R2: one leaf's Root and proofs of few leaves, which are hashes of leaves themselves, are by themselves.
func TestAnswersOfFewLeaves(t *testing.T) {
	for n := 1; n < 6; n++ {
		items := named(0, n)
		leaves := hashes(items)
		roots := beginnings(leaves)
		l := with(t, "R2", items)
		for range 2 {
			spoil(l.Root())
			for i := range n {
				p, _ := l.Include(i, n)
				spoilList(p.Path)
				g, _ := l.Grow(i, n)
				spoilList(g.Path)
			}
		}
		stands(t, "R2: few leaves", l, items)
		for i := range n {
			includes(t, l, leaves, roots, i, n)
			grows(t, l, leaves, roots, i, n)
		}
	}
}

// R2: no two lists of one answer share memory, nor those of two answers, nor with what was handed in.
func TestListsOfAnswersAreApart(t *testing.T) {
	l, _ := begun(t, "R2")
	items := wideList(named(0, 7))
	numbers, _ := l.Add(items...)
	again, _ := l.Add(items...)
	sheets := append(sheetsOf(items), sheetOfInts(numbers), sheetOfInts(again))
	for _, b := range [][]byte{l.Root(), l.Root(), l.Public(), l.Public()} {
		sheets = append(sheets, sheetOfText(b))
	}
	for range 2 {
		now, _ := l.Publish()
		last, _ := l.Last()
		sheets = slices.Concat(sheets, sheetsOfSigned(now), sheetsOfSigned(last))
	}
	for size := range 8 {
		for i := range size {
			entry, _ := l.Entry(i)
			p, _ := l.Include(i, size)
			g, _ := l.Grow(i, size)
			sheets = slices.Concat(sheets, []sheet{sheetOfText(entry)}, sheetsOf(p.Path), sheetsOf(g.Path))
		}
	}
	apart(t, "answers", sheets)
	stands(t, "R2: answers that are marked", l, named(0, 7))
}

// R2: the tests of lists that share memory tell such that do.
func TestSheetsTell(t *testing.T) {
	b := make([]byte, 10)
	one, other := sheetOfText(b[:3:5]), sheetOfText(b[4:6])
	one.mark(1)
	other.mark(2)
	if one.has(1) || !other.has(2) {
		t.Error("a byte in the room of one that is another one's")
	}
}

// R4: nil and empty lists mean the same; the room behind a list's length is not read.
func TestNilAndEmpty(t *testing.T) {
	one, other := with(t, "R4", []string{"a"}), with(t, "R4", []string{"a"})
	x, why := one.Add(nil, []byte("b"))
	y, because := other.Add(wide(""), wide("b"))
	if !slices.Equal(x, y) || why != because || !bytes.Equal(one.Root(), other.Root()) {
		t.Errorf("R4: %v, %v, and %v, %v", x, why, y, because)
	}
}

// R4: two ledgers on four disks side by side see nothing of each other, whatever is done to the one.
func TestLedgersAreByThemselves(t *testing.T) {
	by, from := newSigner(1), newSigner(2)
	eachRow(shortSteps(), 3, func(row []step) bool {
		one, other := benchOf(t, "R4: the one", by, 40, 0), benchOf(t, "R4: the other", from, 100, 9)
		if !other.plays(add("a", "c")) {
			return false
		}
		for _, s := range row {
			if !one.plays(s) || !other.holds() {
				return false
			}
		}
		return other.plays(add("b", "c"), step{kind: doArm, n: 1}, add("d"), step{kind: doCrash, n: 3}, step{kind: doOpen})
	})
}

// R4: by turns: each of three ledgers, with seeds of their own, goes on as its own account says.
func TestLedgersByTurns(t *testing.T) {
	benches := []*bench{benchOf(t, "R4: first", newSigner(1), 200, 144), benchOf(t, "R4: second", newSigner(2), api.MaxDisk, 100), benchOf(t, "R4: third", newSigner(3), 2000, 144)}
	r := rand.New(rand.NewSource(2))
	for range 1500 {
		if !benches[r.Intn(len(benches))].plays(anyStep(r)) {
			return
		}
	}
}

// R4: the same steps are answered the same.
func TestTheSameAgain(t *testing.T) {
	by := newSigner(1)
	for seed := range int64(10) {
		one, other := benchOf(t, "R4", by, 1000, 144), benchOf(t, "R4", by, 1000, 144)
		r, q := rand.New(rand.NewSource(seed)), rand.New(rand.NewSource(seed))
		for range 60 {
			if !one.plays(anyStep(r)) || !other.plays(anyStep(q)) {
				return
			}
			if told(one.d) != told(other.d) || told(one.k) != told(other.k) {
				t.Fatalf("R4: %s, then %s", told(one.d), told(other.d))
			}
		}
	}
}

// R3: Adds that are refused change nothing that any call tells later: one ledger with them, one without.
func TestRefusedAddsChangeNothing(t *testing.T) {
	by := newSigner(1)
	steps := []step{add("a", "b"), add("c", "a"), add("", "d", "e"), {kind: doOpen}, {kind: doGrow, n: 15}, {kind: doGrow, n: 30}}
	refusals := func(b *bench) {
		if b.l != nil {
			b.l.Add(texts(named(0, 257))...)
			b.l.Add(make([]byte, 65530))
			b.l.Add([]byte("new"), make([]byte, 65536))
			if b.a.d.limit-len(b.a.d.text) < 17 {
				b.l.Add([]byte("new"))
			}
			b.l.Include(0, -1)
			b.l.Grow(1, 0)
		}
	}
	eachRow(steps, 4, func(row []step) bool {
		one, other := benchOf(t, "R3", by, 20, 0), benchOf(t, "R3", by, 20, 0)
		for _, s := range row {
			refusals(one)
			if !one.plays(s) || !other.plays(s) || told(one.d) != told(other.d) {
				t.Errorf("R3: refused calls ahead of each of %v", row)
				return false
			}
		}
		return true
	})
}

// R1: one disk for both is not promised to be kept well, but every call ends and none panics.
func TestOneDiskForBoth(t *testing.T) {
	d := roomy(t)
	l, why := ledger.Open(d, d, seedOf(1))
	answers(t, "R1: one disk for both", why, api.OK)
	adds(t, "R1: one disk for both", l, []string{"a"}, 0)
	if _, why := l.Publish(); why != api.OK {
		t.Errorf("R1: one disk for both: %v", why)
	}
	refused(t, "R1: one disk for both", d, d, seedOf(1), api.ErrCorrupt)
	var none *disk.Disk
	refused(t, "R1: none for both", none, none, seedOf(1), api.ErrArg)
}
