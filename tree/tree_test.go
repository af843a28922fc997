package tree_test

import (
	"bytes"
	"encoding/hex"
	"fmt"
	"math"
	"slices"
	"testing"

	"broadsheet/api"
	"broadsheet/tree"
)

// P6.1: Leaf of texts of all lengths up to some blocks of a sum, and of a long one.
func TestLeaf(t *testing.T) {
	for n := range 200 {
		is(t, fmt.Sprintf("P6.1: Leaf of %d bytes", n), tree.Leaf(noise(n)), wantLeaf(noise(n)))
	}
	is(t, "P6.1: Leaf of a long text", tree.Leaf(noise(api.MaxRecord)), wantLeaf(noise(api.MaxRecord)))
	is(t, "P6.1: Leaf of a hash", tree.Leaf(sum()), wantLeaf(sum()))
}

// P6.1, R4: Leaf of nothing is the sum of its tag alone, of nil as of an empty text.
func TestLeafOfNothing(t *testing.T) {
	const want = "6e340b9cffb37a989ca544e6bb780a2c78901d3fb33738768511a30617afa01d"
	for _, b := range [][]byte{nil, {}, noise(9)[:0]} {
		if got := hex.EncodeToString(tree.Leaf(b)); got != want {
			t.Errorf("P6.1: Leaf of nothing: %s", got)
		}
	}
}

// P6.1: Node of sides of many lengths, alike or not.
func TestNode(t *testing.T) {
	for _, left := range []int{0, 1, 31, 32, 33, 64, 500} {
		for _, right := range []int{0, 1, 31, 32, 33, 64, 500} {
			name := fmt.Sprintf("P6.1: Node of %d and %d bytes", left, right)
			is(t, name, tree.Node(noise(left), noise(right)), wantNode(noise(left), noise(right)))
		}
	}
}

// P6.1, R4: Node of nothing is the sum of its tag alone, of nil as of empty sides.
func TestNodeOfNothing(t *testing.T) {
	const want = "4bf5122f344554c53bde2ebb8cd2b7e3d1600ad631c385a5d7cce23c7785459a"
	nothing := [][]byte{nil, {}, noise(9)[:0]}
	for _, left := range nothing {
		for _, right := range nothing {
			if got := hex.EncodeToString(tree.Node(left, right)); got != want {
				t.Errorf("P6.1: Node of nothing: %s", got)
			}
		}
		is(t, "P6.1: Node of nothing and a hash", tree.Node(left, noise(32)), wantNode(nil, noise(32)))
		is(t, "P6.1: Node of a hash and nothing", tree.Node(noise(32), left), wantNode(noise(32), nil))
	}
}

// P6.1: which side is left is told, and a node is no leaf.
func TestNodeTellsSides(t *testing.T) {
	a, b := wantLeaf([]byte("a")), wantLeaf([]byte("b"))
	if bytes.Equal(tree.Node(a, b), tree.Node(b, a)) {
		t.Error("P6.1: Node of two sides and of the same swapped: alike")
	}
	if bytes.Equal(tree.Node(a, b), tree.Leaf(slices.Concat(a, b))) {
		t.Error("P6.1: Node, and Leaf of both sides: alike")
	}
	if bytes.Equal(tree.Node(a, a), tree.Node(b, b)) || bytes.Equal(tree.Node(a, a), a) {
		t.Error("P6.1: Node of a side twice")
	}
}

// P6.1: Split of numbers below 2 is none.
func TestSplitOfFew(t *testing.T) {
	for _, n := range []int{1, 0, -1, -2, -3, -8, -1 << 31, -1 << 32, math.MinInt + 1, math.MinInt} {
		if got := tree.Split(n); got != 0 {
			t.Errorf("P6.1: Split(%d): %d", n, got)
		}
	}
}

// P6.1: Split of all small numbers, against the powers of two gone through from 1 on.
func TestSplitOfSmallNumbers(t *testing.T) {
	for n := 2; n < 5000; n++ {
		want := 1
		for want*2 < n {
			want *= 2
		}
		if got := tree.Split(n); got != want {
			t.Errorf("P6.1: Split(%d): %d, want %d", n, got, want)
		}
	}
	for n, want := range map[int]int{2: 1, 3: 2, 4: 2, 5: 4, 8: 4} {
		if got := tree.Split(n); got != want {
			t.Errorf("P6.1: Split(%d): %d, want %d", n, got, want)
		}
	}
}

// P6.1: Split of each power of two that an int has, of one below and of one above it, and of the greatest int.
func TestSplitAtPowers(t *testing.T) {
	for power := 4; power > 0; power *= 2 {
		for n, want := range map[int]int{power - 1: power / 2, power: power / 2, power + 1: power} {
			if got := tree.Split(n); got != want {
				t.Errorf("P6.1: Split(%d): %d, want %d", n, got, want)
			}
		}
	}
	if got := tree.Split(math.MaxInt); got != math.MaxInt/2+1 {
		t.Errorf("P6.1: Split of the greatest int: %d", got)
	}
}

// P6.1, R4: Root of none is the sum of nothing, of nil as of an empty list, whatever is in the room behind it.
func TestRootOfNone(t *testing.T) {
	const want = "e3b0c44298fc1c149afbf4c8996fb92427ae41e4649b934ca495991b7852b855"
	for _, none := range [][][]byte{nil, {}, leafHashes(4)[:0]} {
		if got := hex.EncodeToString(tree.Root(none)); got != want {
			t.Errorf("P6.1: Root of none: %s", got)
		}
	}
}

// P6.1: Root of one leaf is it, and is not hashed again, whatever its length.
func TestRootOfOne(t *testing.T) {
	for _, n := range []int{0, 1, 31, 32, 33, 1000} {
		is(t, fmt.Sprintf("P6.1: Root of one leaf of %d bytes", n), tree.Root([][]byte{noise(n)}), noise(n))
	}
	is(t, "P6.1: Root of one nil leaf", tree.Root([][]byte{nil}), nil)
	is(t, "P6.1: Root of the first of three", tree.Root(leafHashes(3)[:1]), leafHashes(1)[0])
}

// P6.1: the roots of few leaves, spelt out.
func TestRootOfFew(t *testing.T) {
	l := leafHashes(7)
	ab, cd, ef := wantNode(l[0], l[1]), wantNode(l[2], l[3]), wantNode(l[4], l[5])
	for n, want := range [][]byte{
		2: ab,
		3: wantNode(ab, l[2]),
		4: wantNode(ab, cd),
		5: wantNode(wantNode(ab, cd), l[4]),
		6: wantNode(wantNode(ab, cd), ef),
		7: wantNode(wantNode(ab, cd), wantNode(ef, l[6])),
	} {
		if n > 1 {
			is(t, fmt.Sprintf("P6.1: Root of %d leaves", n), tree.Root(l[:n]), want)
		}
	}
	a, b, c := tree.Leaf([]byte("a")), tree.Leaf([]byte("b")), tree.Leaf([]byte("c"))
	is(t, "P6.1: Root(a, b, c)", tree.Root([][]byte{a, b, c}), tree.Node(tree.Node(a, b), c))
}

// P6.1: roots of eight texts and of their beginnings, worked out by another program.
func TestRootsWorkedOutElsewhere(t *testing.T) {
	texts := []string{"", "00", "10", "2021", "3031", "40414243", "5051525354555657", "606162636465666768696a6b6c6d6e6f"}
	roots := []string{
		"e3b0c44298fc1c149afbf4c8996fb92427ae41e4649b934ca495991b7852b855",
		"6e340b9cffb37a989ca544e6bb780a2c78901d3fb33738768511a30617afa01d",
		"fac54203e7cc696cf0dfcb42c92a1d9dbaf70ad9e621f4bd8d98662f00e3c125",
		"aeb6bcfe274b70a14fb067a5e5578264db0fa9b51af5e0ba159158f329e06e77",
		"d37ee418976dd95753c1c73862b9398fa2a2cf9b4ff0fdfe8b30cd95209614b7",
		"4e3bbb1f7b478dcfe71fb631631519a3bca12c9aefca1612bfce4c13a86264d4",
		"76e67dadbcdf1e10e1b74ddc608abd2f98dfb16fbce75277b5232a127f2087ef",
		"ddb89be403809e325750d3d263cd78929c2942b7942a34b77e122c9594a74c8c",
		"5dc9da79a70659a9ad559cb701ded9a2ab9d823aad2f4960cfe370eff4604328",
	}
	var leaves [][]byte
	for n, want := range roots {
		if got := hex.EncodeToString(tree.Root(leaves)); got != want {
			t.Errorf("P6.1: Root of %d: %s, want %s", n, got, want)
		}
		if n < len(texts) {
			text, _ := hex.DecodeString(texts[n])
			leaves = append(leaves, tree.Leaf(text))
		}
	}
}

// P6.1: each number of leaves up to more than a log has, in lists with room behind them and without.
func TestRootOfMany(t *testing.T) {
	l := leafHashes(api.MaxLeaves + 4)
	for n := range len(l) + 1 {
		want := wantRoot(l[:n])
		is(t, fmt.Sprintf("P6.1: Root of %d", n), tree.Root(l[:n]), want)
		is(t, fmt.Sprintf("P6.1: Root of %d without room", n), tree.Root(slices.Clip(l[:n])), want)
	}
	l = leafHashes(5000)
	is(t, "P6.1: Root of 5000", tree.Root(l), wantRoot(l))
}

// P6.1: leaves of whatever length, nil ones among them, are hashed as they are.
func TestRootOfOddLeaves(t *testing.T) {
	for n := 2; n < 40; n++ {
		var l [][]byte
		for i := range n {
			l = append(l, noise(i*i*7%100))
		}
		l[n/2] = nil
		is(t, fmt.Sprintf("P6.1: Root of %d leaves of unlike lengths", n), tree.Root(l), wantRoot(l))
		is(t, fmt.Sprintf("P6.1: Root of %d nil leaves", n), tree.Root(make([][]byte, n)), wantRoot(make([][]byte, n)))
	}
	l := [][]byte{noise(api.MaxRecord), nil, noise(100000)}
	is(t, "P6.1: Root of long leaves", tree.Root(l), wantRoot(l))
}

// R4: a nil leaf means what an empty one does, in Root and in Range.
func TestNilLeavesAreEmptyOnes(t *testing.T) {
	for n := 1; n < 10; n++ {
		for at := range n {
			nils, empties := leafHashes(n), leafHashes(n)
			nils[at], empties[at] = nil, []byte{}
			is(t, fmt.Sprintf("R4: Root of %d leaves, number %d nil", n, at), tree.Root(nils), tree.Root(empties))
			is(t, fmt.Sprintf("R4: Range of number %d of %d, nil", at, n), tree.Range(nils, at, at+1), nil)
			is(t, fmt.Sprintf("R4: Range of number %d of %d, empty", at, n), tree.Range(empties, at, at+1), nil)
		}
	}
}

// P6.1: the root hangs on each leaf and on its place.
func TestRootTellsLeaves(t *testing.T) {
	for n := 2; n < 20; n++ {
		l := leafHashes(n)
		root := tree.Root(l)
		for at := range l {
			turned := slices.Clone(l)
			turned[at] = bytes.Clone(l[at])
			turned[at][at] ^= 1
			swapped := slices.Clone(l)
			other := (at + 1) % n
			swapped[at], swapped[other] = l[other], l[at]
			for name, changed := range map[string][][]byte{
				"a bit turned":    turned,
				"two swapped":     swapped,
				"one taken away":  slices.Delete(slices.Clone(l), at, at+1),
				"one there twice": slices.Insert(slices.Clone(l), at, l[at]),
			} {
				if bytes.Equal(tree.Root(changed), root) {
					t.Errorf("P6.1: %d leaves, at %d %s: the same Root", n, at, name)
				}
			}
		}
	}
}

// P6.1: Range of each from and to of lists with room behind them, against the roots of copies.
func TestRange(t *testing.T) {
	all := leafHashes(30)
	for _, n := range []int{0, 1, 2, 3, 8, 9, 27} {
		l := all[:n]
		for from := range n + 1 {
			for to := from; to <= n; to++ {
				name := fmt.Sprintf("P6.1: Range of %d, %d to %d", n, from, to)
				is(t, name, tree.Range(l, from, to), wantRoot(slices.Clone(l[from:to])))
			}
		}
		is(t, fmt.Sprintf("P6.1: Range of all %d", n), tree.Range(l, 0, n), tree.Root(l))
	}
}

// P6.1: Range of from = to is the sum of nothing, at both ends too, and of no leaves.
func TestRangeOfNone(t *testing.T) {
	l := leafHashes(9)
	for at := range 10 {
		is(t, fmt.Sprintf("P6.1: Range of 9, %d to %d", at, at), tree.Range(l, at, at), sum())
	}
	for _, none := range [][][]byte{nil, {}, l[:0]} {
		is(t, "P6.1: Range of no leaves, 0 to 0", tree.Range(none, 0, 0), sum())
	}
}

// P6.1, R5: nil, unless from and to are places of the list, in order; the room behind its length has none.
func TestRangeOfNoPlaces(t *testing.T) {
	roomy := leafHashes(20)
	places := []int{math.MinInt, -1 << 32, -10, -9, -2, -1, 0, 1, 2, 3, 8, 9, 10, 15, 20, 21, 1 << 32, math.MaxInt}
	for _, l := range [][][]byte{nil, {}, roomy[:0], roomy[:1], roomy[:2], roomy[:9], slices.Clip(roomy[:9])} {
		for _, from := range places {
			for _, to := range places {
				got := tree.Range(l, from, to)
				if right := 0 <= from && from <= to && to <= len(l); (got != nil) != right {
					t.Errorf("P6.1: Range of %d, %d to %d: %x", len(l), from, to, got)
				}
			}
		}
	}
}
