package ledger_test

import (
	"math"
	"strings"
	"testing"

	"broadsheet/api"
	"broadsheet/hash"
)

// P15.2: an empty ledger.
func TestEmpty(t *testing.T) {
	l, _ := begun(t, "P15.2: empty")
	if l.Size() != 0 || string(l.Root()) != string(hash.Sum(nil)) || hash.Hex(l.Root())[:8] != "e3b0c442" || l.KeysLeft() != 16 {
		t.Errorf("P15.2: empty: Size %d, Root %x, KeysLeft %d", l.Size(), l.Root(), l.KeysLeft())
	}
	lacks(t, "P15.2: empty", l, "", "a")
	for _, i := range []int{math.MinInt, -1, 0, 1, math.MaxInt} {
		if b, ok := l.Entry(i); ok || len(b) > 0 {
			t.Errorf("P15.2: Entry(%d) of none: %q, %v", i, b, ok)
		}
	}
}

// P15.2: Size and Root at each size from none to MaxLeaves, one leaf at a time and opened so.
func TestRootAtEachSize(t *testing.T) {
	l, _ := begun(t, "P15.2: Root")
	items := named(0, most)
	items[3] = ""
	items[7] = strings.Repeat("long", 500)
	for n := range most + 1 {
		for range 2 {
			if l.Size() != n || string(l.Root()) != rootOf(items[:n]) {
				t.Fatalf("P15.2: Size %d, Root %x, want %d, %x", l.Size(), l.Root(), n, rootOf(items[:n]))
			}
		}
		if n%16 < 2 {
			opened(t, "P15.2: opened", kept(t, written(alone(items[:n])...)), roomy(t), items[:n], 0)
		}
		if n < most {
			adds(t, "P15.2", l, items[n:n+1], n)
		}
	}
}

// P15.2: Root by hashes that are written out: of one leaf its own, of three as the run of tree says.
func TestRootByNodes(t *testing.T) {
	l, _ := begun(t, "P15.2: Root")
	a, b, c := hash.Sum([]byte("\x00a")), hash.Sum([]byte("\x00b")), hash.Sum([]byte("\x00c"))
	adds(t, "P15.2", l, []string{"a"}, 0)
	if string(l.Root()) != string(a) {
		t.Errorf("P15.2: Root of one: %x", l.Root())
	}
	adds(t, "P15.2", l, []string{"b", "c"}, 1, 2)
	ab := hash.Sum([]byte("\x01" + string(a) + string(b)))
	if want := hash.Sum([]byte("\x01" + string(ab) + string(c))); string(l.Root()) != string(want) {
		t.Errorf("P15.2: Root of three: %x, want %x", l.Root(), want)
	}
}

// P15.2: Entry and Find at each leaf of a full ledger, and beyond.
func TestEntryAndFind(t *testing.T) {
	items := named(0, most)
	l := with(t, "P15.2", items)
	for range 2 {
		stands(t, "P15.2: a full ledger", l, items)
	}
	for _, i := range []int{math.MinInt, -256, -1, 256, 257, 512, math.MaxInt, 1 << 32, 1<<32 + 1, -1 << 32} {
		if b, ok := l.Entry(i); ok || len(b) > 0 {
			t.Errorf("P15.2: Entry(%d): %q, %v", i, b, ok)
		}
	}
	lacks(t, "P15.2: not there", l, "", "item", "item256", "item00", "Item0", "item0 ", " item0", "item0\x00", batch("item0"), string(hashes(items)[0]), strings.Repeat("x", 1<<20))
}

// P15.2: Find is of the item itself, not of its hash or its number.
func TestFindIsOfTheItem(t *testing.T) {
	item := "an item"
	l := with(t, "P15.2", []string{item})
	leaf := hashes([]string{item})[0]
	lacks(t, "P15.2: Find of a hash", l, string(leaf), string(hash.Sum([]byte(item))), "0", "\x00", "\x00\x00\x00\x00")
	b, ok := l.Entry(0)
	if !ok || string(b) != item {
		t.Errorf("P15.2: Entry: %q, %v", b, ok)
	}
	adds(t, "P15.2: its hash is another item", l, []string{string(leaf)}, 1)
}

// P15.2: what asks makes no call of the disks, and needs no power.
func TestAskingCallsNothing(t *testing.T) {
	items := named(0, 5)
	d, k := kept(t, written(items)), kept(t, used(3))
	l := opened(t, "P15.2: asking", d, k, items, 3)
	d.Arm(1)
	k.Arm(1)
	asks := func() {
		stands(t, "P15.2: asking", l, items)
		l.Last()
		if p, why := l.Include(2, 4); why != api.OK || p.Size != 4 {
			t.Errorf("P15.2: Include: %v, %v", p, why)
		}
		if g, why := l.Grow(2, 4); why != api.OK || g.To != 4 {
			t.Errorf("P15.2: Grow: %v, %v", g, why)
		}
		if len(l.Public()) != 32 || l.KeysLeft() != 13 {
			t.Errorf("P15.2: Public %x, KeysLeft %d", l.Public(), l.KeysLeft())
		}
	}
	asks()
	tells(t, "P15.2: asking, d", d, written(items), len(written(items)), false)
	tells(t, "P15.2: asking, k", k, used(3), 27, false)
	armedSo(t, "P15.2: asking, d", d, 1)
	armedSo(t, "P15.2: asking, k", k, 1)
	asks()
}
