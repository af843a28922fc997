package ledger_test

import (
	"fmt"
	"math"
	"slices"
	"testing"

	"broadsheet/api"
	"broadsheet/ledger"
	"broadsheet/proof"
	"broadsheet/tree"
)

// samePath: are they the same hashes in the same order?
func samePath(a, b [][]byte) bool {
	return slices.EqualFunc(a, b, func(x, y []byte) bool { return string(x) == string(y) })
}

// beginnings tells the roots over the first leaves, of each number of them.
func beginnings(leaves [][]byte) [][]byte {
	roots := make([][]byte, 0, len(leaves)+1)
	for n := range len(leaves) + 1 {
		roots = append(roots, tree.Root(leaves[:n]))
	}
	return roots
}

// checks checks what Include(i, size) tells against the root of that size.
func checks(t *testing.T, l *ledger.Ledger, leaves, roots [][]byte, i, size int) api.Proof {
	t.Helper()
	p, why := l.Include(i, size)
	if why != api.OK || p.Index != i || p.Size != size || !proof.Check(p, leaves[i], roots[size]) {
		t.Fatalf("P15.2, W2: Include(%d, %d): %v, %v: it does not check", i, size, p, why)
	}
	return p
}

// checksGrow checks what Grow(from, to) tells against the roots of both sizes.
func checksGrow(t *testing.T, l *ledger.Ledger, roots [][]byte, from, to int) api.Growth {
	t.Helper()
	g, why := l.Grow(from, to)
	if why != api.OK || g.From != from || g.To != to || !proof.CheckGrow(g, roots[from], roots[to]) {
		t.Fatalf("P15.2, W2: Grow(%d, %d): %v, %v: it does not check", from, to, g, why)
	}
	return g
}

// includes checks Include(i, size), and holds it against proof.Include.
func includes(t *testing.T, l *ledger.Ledger, leaves, roots [][]byte, i, size int) {
	t.Helper()
	p := checks(t, l, leaves, roots, i, size)
	if want, _ := proof.Include(leaves[:size], i); !samePath(p.Path, want.Path) {
		t.Fatalf("P15.2: Include(%d, %d): %v, want %v", i, size, p, want)
	}
}

// grows checks Grow(from, to), and holds it against proof.Grow.
func grows(t *testing.T, l *ledger.Ledger, leaves, roots [][]byte, from, to int) {
	t.Helper()
	g := checksGrow(t, l, roots, from, to)
	if want, _ := proof.Grow(leaves[:to], from); !samePath(g.Path, want.Path) {
		t.Fatalf("P15.2: Grow(%d, %d): %v, want %v", from, to, g, want)
	}
}

// includesNone holds that Include is ErrArg, and no proof.
func includesNone(t *testing.T, l *ledger.Ledger, i, size int) {
	t.Helper()
	if p, why := l.Include(i, size); why != api.ErrArg || p.Index != 0 || p.Size != 0 || len(p.Path) > 0 {
		t.Errorf("P15.2: Include(%d, %d) of %d leaves: %v, %v, want none, ErrArg", i, size, l.Size(), p, why)
	}
}

// growsNone holds that Grow is ErrArg, and no growth.
func growsNone(t *testing.T, l *ledger.Ledger, from, to int) {
	t.Helper()
	if g, why := l.Grow(from, to); why != api.ErrArg || g.From != 0 || g.To != 0 || len(g.Path) > 0 {
		t.Errorf("P15.2: Grow(%d, %d) of %d leaves: %v, %v, want none, ErrArg", from, to, l.Size(), g, why)
	}
}

// P15.2: ledgers of each size up to 20, with each pair of numbers from below 0 to beyond all.
func TestProofsOfSmallLedgers(t *testing.T) {
	items := named(0, 20)
	leaves := hashes(items)
	roots := beginnings(leaves)
	l, _ := begun(t, "P15.2: proofs")
	for n := range len(items) + 1 {
		for one := -2; one < n+3; one++ {
			for other := -2; other < n+3; other++ {
				if 0 <= other && other <= n && 0 <= one && one < other {
					includes(t, l, leaves, roots, one, other)
				} else {
					includesNone(t, l, one, other)
				}
				if 0 <= one && one <= other && other <= n {
					grows(t, l, leaves, roots, one, other)
				} else {
					growsNone(t, l, one, other)
				}
			}
		}
		if n < len(items) {
			adds(t, "P15.2", l, items[n:n+1], n)
		}
	}
}

// P15.2, W2: each leaf of each size, and each growth, from none to a full ledger: all check. All of the sizes up to 69 and of those next to a multiple of 64 are held against package proof, too, and of the others some: that is slow.
func TestProofsOfEachSize(t *testing.T) {
	items := named(0, most)
	leaves := hashes(items)
	roots := beginnings(leaves)
	l := with(t, "P15.2", items)
	for size := range most + 1 {
		all := size < 70 || size%64 < 2 || size == 255
		for from := range size + 1 {
			if all || from%11 == 0 {
				grows(t, l, leaves, roots, from, size)
			} else {
				checksGrow(t, l, roots, from, size)
			}
		}
		for i := range size {
			if all || i%11 == 0 {
				includes(t, l, leaves, roots, i, size)
			} else {
				checks(t, l, leaves, roots, i, size)
			}
		}
	}
}

// P15.2: numbers far off.
func TestProofsOfOddNumbers(t *testing.T) {
	odd := []int{math.MinInt, math.MinInt + 1, -1 << 32, -257, -256, -1, 257, 258, 1 << 31, 1 << 32, 1<<32 + 3, math.MaxInt - 1, math.MaxInt}
	for _, n := range []int{0, 1, 5, most} {
		l := with(t, "P15.2", named(0, n))
		for _, x := range odd {
			for _, y := range append(odd, 0, 1, n) {
				includesNone(t, l, x, y)
				includesNone(t, l, y, x)
				growsNone(t, l, x, y)
				growsNone(t, l, y, x)
			}
		}
		includesNone(t, l, n, n)
		includesNone(t, l, 0, 0)
		growsNone(t, l, n+1, n)
		growsNone(t, l, n+1, n+1)
		growsNone(t, l, 0, n+1)
		includesNone(t, l, 0, n+1)
	}
}

// W2: what is shown of a ledger checks: from each checkpoint to each later one, by the roots that were signed.
func TestWhatIsShownChecks(t *testing.T) {
	by := newSigner(1)
	l, _ := begun(t, "W2")
	var shown []api.Signed
	size := 0
	for i := range 10 {
		s, why := l.Publish()
		answers(t, "W2: Publish", why, api.OK)
		if !by.isFor(s, i, named(0, size)) {
			t.Fatalf("W2: checkpoint %d", i)
		}
		shown = append(shown, s)
		adds(t, "W2", l, named(size, i+1), upTo(size, i+1)...)
		size += i + 1
	}
	for _, now := range shown {
		for _, old := range shown {
			g, why := l.Grow(old.Check.Size, now.Check.Size)
			if well := why == api.OK && proof.CheckGrow(g, old.Check.Root, now.Check.Root); well != (old.Check.Size <= now.Check.Size) {
				t.Errorf("W2: from %d to %d: %v, %v", old.Check.Size, now.Check.Size, why, well)
			}
		}
		for i := range now.Check.Size {
			item, _ := l.Entry(i)
			p, why := l.Include(i, now.Check.Size)
			if why != api.OK || !proof.Check(p, tree.Leaf(item), now.Check.Root) {
				t.Errorf("W2: leaf %d of %d", i, now.Check.Size)
			}
		}
	}
}

// R3: refused Adds change nothing of proofs.
func TestProofsBehindRefusals(t *testing.T) {
	items := named(0, 6)
	leaves := hashes(items)
	roots := beginnings(leaves)
	d := diskOf(t, items)
	d.Grow(d.Size())
	l := opened(t, "R3", d, roomy(t), items, 0)
	addsNone(t, "R3", l, []string{"more"}, api.ErrFull)
	addsNone(t, "R3", l, named(0, 300), api.ErrLong)
	for size := 1; size < 7; size++ {
		for i := range size {
			includes(t, l, leaves, roots, i, size)
			grows(t, l, leaves, roots, i, size)
		}
	}
	for i := range 9 {
		includesNone(t, l, i, 7)
		growsNone(t, l, i, 7)
	}
	if fault := amiss(l, items); fault != "" {
		t.Error(fmt.Sprint("R3: ", fault))
	}
}
