package proof_test

import (
	"bytes"
	"fmt"
	"math"
	"math/rand"
	"slices"
	"testing"

	"broadsheet/api"
	"broadsheet/proof"
)

// holdLead holds Lead and Check against what the chapter says of them.
func holdLead(t *testing.T, name string, p api.Proof, leaf []byte) {
	t.Helper()
	want, wantOK := wantLead(p, leaf)
	got, ok := proof.Lead(p, leaf)
	if ok != wantOK || !bytes.Equal(got, want) {
		t.Errorf("P8.1: %s: Lead: %x, %v, want %x, %v", name, got, ok, want, wantOK)
	}
	if !ok {
		for _, root := range [][]byte{nil, {}, leaf, got, sum()} {
			if proof.Check(p, leaf, root) {
				t.Errorf("P8.1: %s: Lead is false, Check is true of %x", name, root)
			}
		}
		return
	}
	if !proof.Check(p, leaf, want) || proof.Check(p, leaf, turned(want)) {
		t.Errorf("P8.1: %s: Check", name)
	}
}

// leadRefused asks that Lead and Check tell nothing.
func leadRefused(t *testing.T, name string, p api.Proof, leaf, root []byte) {
	t.Helper()
	if got, ok := proof.Lead(p, leaf); ok || len(got) != 0 {
		t.Errorf("P8.1: %s: Lead(index %d, size %d, %d hashes): %x, %v", name, p.Index, p.Size, len(p.Path), got, ok)
	}
	for _, r := range [][]byte{root, leaf, nil, {}, sum()} {
		if proof.Check(p, leaf, r) {
			t.Errorf("P8.1: %s: Check(index %d, size %d, %d hashes): true of %x", name, p.Index, p.Size, len(p.Path), r)
		}
	}
}

// P8.1: what Lead tells of few hashes, spelt out.
func TestLeadOfFew(t *testing.T) {
	h := hashes(4)
	for _, c := range []struct {
		index, size int
		path        [][]byte
		want        []byte
	}{
		{0, 1, nil, h[0]},
		{0, 1, [][]byte{}, h[0]},
		{0, 2, h[1:2], wantNode(h[0], h[1])},
		{1, 2, h[1:2], wantNode(h[1], h[0])},
		{0, 3, h[1:3], wantNode(wantNode(h[0], h[1]), h[2])},
		{1, 3, h[1:3], wantNode(wantNode(h[1], h[0]), h[2])},
		{2, 3, h[1:2], wantNode(h[1], h[0])},
		{2, 4, h[1:3], wantNode(h[2], wantNode(h[0], h[1]))},
		{4, 5, h[1:2], wantNode(h[1], h[0])},
		{4, 7, h[1:4], wantNode(h[3], wantNode(wantNode(h[0], h[1]), h[2]))},
		{6, 7, h[1:3], wantNode(h[2], wantNode(h[1], h[0]))},
	} {
		p := api.Proof{Index: c.index, Size: c.size, Path: c.path}
		got, ok := proof.Lead(p, h[0])
		if !ok || !proof.Check(p, h[0], c.want) {
			t.Errorf("P8.1: Lead(%d of %d): refused", c.index, c.size)
		}
		is(t, fmt.Sprintf("P8.1: Lead(%d of %d)", c.index, c.size), got, c.want)
	}
}

// P8.1: a path with one hash too few or too many, wherever it went or came, none, and as many again.
func TestLeadOfWrongCounts(t *testing.T) {
	l, other := leafHashes(40), hashes(1)
	for n := 1; n <= len(l); n++ {
		root := wantRoot(l[:n])
		for i := range n {
			path := included(t, l[:n], i).Path
			for at := range path {
				short := slices.Delete(slices.Clone(path), at, at+1)
				leadRefused(t, "one too few", api.Proof{Index: i, Size: n, Path: short}, l[i], root)
			}
			for at := range len(path) + 1 {
				long := slices.Insert(slices.Clone(path), at, other...)
				leadRefused(t, "one too many", api.Proof{Index: i, Size: n, Path: long}, l[i], root)
			}
			leadRefused(t, "the root behind it", api.Proof{Index: i, Size: n, Path: append(slices.Clone(path), root)}, l[i], root)
			if n > 1 {
				leadRefused(t, "none", api.Proof{Index: i, Size: n}, l[i], root)
				leadRefused(t, "an empty one", api.Proof{Index: i, Size: n, Path: path[:0]}, l[i], root)
				leadRefused(t, "twice as many", api.Proof{Index: i, Size: n, Path: slices.Concat(path, path)}, l[i], root)
			}
		}
	}
	for n := 1; n < 40; n++ {
		leadRefused(t, "some where none is asked", api.Proof{Index: 0, Size: 1, Path: hashes(n)}, l[0], l[0])
	}
}

// P8.1, R5: an Index that is none of Size.
func TestLeadOfNoIndex(t *testing.T) {
	l := leafHashes(20)
	for n := 1; n <= len(l); n++ {
		root := wantRoot(l[:n])
		for i := range n {
			path := included(t, l[:n], i).Path
			for _, index := range []int{-1, -2, -n, -i - 1, i - n, n, n + 1, n + i, 2 * n, 1 << 62, math.MaxInt, math.MinInt, math.MinInt + i} {
				leadRefused(t, "no index", api.Proof{Index: index, Size: n, Path: path}, l[i], root)
			}
			for _, size := range []int{0, -1, -n, i, i - 1, math.MinInt, math.MinInt + 1} {
				leadRefused(t, "no size", api.Proof{Index: i, Size: size, Path: path}, l[i], root)
			}
		}
	}
}

// P8.1, R1: Index and Size at the ends of ints, below 0, and about 0, with paths of each count.
func TestLeadOfOddNumbers(t *testing.T) {
	odd := []int{math.MinInt, math.MinInt + 1, -1 << 32, -2, -1, 0, 1, 2, 3, 1 << 16, 1<<16 + 1, 1 << 32, 1 << 62, 1<<62 + 1, math.MaxInt - 1, math.MaxInt}
	h := hashes(70)
	for _, index := range odd {
		for _, size := range odd {
			for n := range 70 {
				holdLead(t, fmt.Sprintf("index %d, size %d, %d hashes", index, size, n), api.Proof{Index: index, Size: size, Path: h[:n]}, leafHashes(1)[0])
			}
		}
	}
}

// P8.1: a leaf that is no hash, with a path and without.
func TestLeadOfNoHash(t *testing.T) {
	l := leafHashes(9)
	for name, wrong := range wrongLengths() {
		for n := 1; n <= len(l); n++ {
			for i := range n {
				leadRefused(t, "a leaf "+name, included(t, l[:n], i), wrong, wantRoot(l[:n]))
			}
		}
		leadRefused(t, "one leaf "+name, api.Proof{Size: 1}, wrong, wrong)
	}
}

// P8.1: a hash of the path that is none, in each place.
func TestLeadOfNoRightPath(t *testing.T) {
	l := leafHashes(17)
	for name, wrong := range wrongLengths() {
		for _, n := range []int{2, 3, 4, 7, 8, 17} {
			for i := range n {
				path := included(t, l[:n], i).Path
				for at := range path {
					changed := slices.Clone(path)
					changed[at] = wrong
					leadRefused(t, fmt.Sprintf("number %d %s", at, name), api.Proof{Index: i, Size: n, Path: changed}, l[i], wantRoot(l[:n]))
				}
			}
		}
	}
}

// P8.1: another leaf, and a hash of the path that was turned, are told from the root.
func TestCheckTellsLeavesAndPaths(t *testing.T) {
	l := leafHashes(33)
	for n := 1; n <= len(l); n++ {
		root := wantRoot(l[:n])
		for i := range n {
			p := included(t, l[:n], i)
			name := fmt.Sprintf("%d of %d", i, n)
			for _, leaf := range [][]byte{turned(l[i]), l[(i+1)%n], root, sum()} {
				holdLead(t, name+", another leaf", p, leaf)
				if proof.Check(p, leaf, root) && !bytes.Equal(leaf, l[i]) {
					t.Errorf("P8.1: %s: Check of another leaf: true", name)
				}
			}
			for at := range p.Path {
				q := api.Proof{Index: i, Size: n, Path: slices.Clone(p.Path)}
				q.Path[at] = turned(p.Path[at])
				holdLead(t, name+", a hash turned", q, l[i])
				if proof.Check(q, l[i], root) {
					t.Errorf("P8.1: %s: Check with hash %d turned: true", name, at)
				}
			}
			if len(p.Path) > 1 {
				q := api.Proof{Index: i, Size: n, Path: slices.Clone(p.Path)}
				slices.Reverse(q.Path)
				holdLead(t, name+", hashes the other way round", q, l[i])
				if proof.Check(q, l[i], root) {
					t.Errorf("P8.1: %s: Check with hashes the other way round: true", name)
				}
			}
		}
	}
}

// P8.1: with another Index or Size Lead tells what the path leads to by them, and Check is true just where that is the root: the sides of some leaves are the same in trees of several sizes.
func TestLeadOfOtherPlaces(t *testing.T) {
	l := leafHashes(14)
	for n := 1; n <= len(l); n++ {
		root := wantRoot(l[:n])
		for i := range n {
			path := included(t, l[:n], i).Path
			for index := -2; index < n+4; index++ {
				for size := -1; size < n+6; size++ {
					p := api.Proof{Index: index, Size: size, Path: path}
					name := fmt.Sprintf("the path of %d of %d as that of %d of %d", i, n, index, size)
					holdLead(t, name, p, l[i])
					told, ok := wantLead(p, l[i])
					if proof.Check(p, l[i], root) != (ok && bytes.Equal(told, root)) {
						t.Errorf("P8.1: %s: Check", name)
					}
					if size == n && index != i && proof.Check(p, l[i], root) {
						t.Errorf("P8.1: %s: Check of another index: true", name)
					}
				}
			}
		}
	}
	l = leafHashes(3)
	p := included(t, l, 0)
	p.Size = 4
	if !proof.Check(p, l[0], wantRoot(l)) {
		t.Error("P8.1: the path of 0 of 3 as that of 0 of 4: the sides are the same")
	}
}

// P8.1: a root that is nil, or of another length, or turned.
func TestCheckOfNoRoot(t *testing.T) {
	l := leafHashes(12)
	for n := 1; n <= len(l); n++ {
		root := wantRoot(l[:n])
		for i := range n {
			p := included(t, l[:n], i)
			for _, wrong := range wrongLengths() {
				if proof.Check(p, l[i], wrong) {
					t.Errorf("P8.1: Check(%d of %d) of %x: true", i, n, wrong)
				}
			}
			for at := range root {
				bad := bytes.Clone(root)
				bad[at] ^= 0x80
				if proof.Check(p, l[i], bad) || proof.Check(p, l[i], root[:at]) {
					t.Errorf("P8.1: Check(%d of %d), byte %d of the root turned, or the root cut: true", i, n, at)
				}
			}
			if proof.Check(p, l[i], append(slices.Clip(root), 0)) || !proof.Check(p, l[i], append(slices.Clip(root), 0)[:32]) {
				t.Errorf("P8.1, R5: Check(%d of %d) of a root with a byte more, or with room", i, n)
			}
		}
	}
}

// P8.1: how many hashes are asked of sizes far above any list's: just so many lead on, and if they are more than MaxProof, none do.
func TestLeadOfGreatSizes(t *testing.T) {
	h, leaf := hashes(70), leafHashes(1)[0]
	for _, size := range greatSizes() {
		for _, index := range places(size) {
			p := api.Proof{Index: index, Size: size}
			asked := wantAuditCount(index, size)
			for n := range len(h) + 1 {
				p.Path = h[:n]
				if _, ok := proof.Lead(p, leaf); ok != (n == asked && n <= api.MaxProof) {
					t.Errorf("P8.1: Lead(%d of %d) with %d hashes: %v, %d are asked", index, size, n, ok, asked)
				}
			}
			p.Path = h[:asked]
			holdLead(t, fmt.Sprintf("index %d, size %d", index, size), p, leaf)
		}
	}
}

// P8.1: some of those counts, spelt out.
func TestLeadOfGreatSizesSpeltOut(t *testing.T) {
	h, leaf := hashes(70), leafHashes(1)[0]
	for _, c := range []struct {
		index, size, asked int
	}{
		{0, 1 << 15, 15}, {1<<15 - 1, 1 << 15, 15},
		{0, 1<<16 - 1, 16}, {1<<16 - 2, 1<<16 - 1, 15},
		{0, 1 << 16, 16}, {1<<16 - 1, 1 << 16, 16},
		{0, 1<<16 + 1, 17}, {1<<16 - 1, 1<<16 + 1, 17}, {1 << 16, 1<<16 + 1, 1},
		{1 << 62, 1<<62 + 1, 1}, {1<<62 - 1, 1<<62 + 1, 63}, {1 << 62, 1<<62 + 2, 2},
		{1<<62 + 1<<15, 1<<62 + 1<<15 + 1, 2}, {1 << 62, 1<<62 + 1<<15, 16}, {1 << 62, 1<<62 + 1<<15 + 1, 17},
		{0, math.MaxInt, 63}, {math.MaxInt - 1, math.MaxInt, 62},
	} {
		for n := range len(h) + 1 {
			_, ok := proof.Lead(api.Proof{Index: c.index, Size: c.size, Path: h[:n]}, leaf)
			if ok != (n == c.asked && n <= 16) {
				t.Errorf("P8.1: Lead(%d of %d) with %d hashes: %v, %d are asked", c.index, c.size, n, ok, c.asked)
			}
		}
	}
	p := api.Proof{Index: 1 << 62, Size: 1<<62 + 1, Path: h[:1]}
	if !proof.Check(p, leaf, wantNode(h[0], leaf)) || proof.Check(p, leaf, wantNode(leaf, h[0])) {
		t.Error("P8.1: Check of the last leaf of a great tree")
	}
}

// P8.1, R1: proofs that nobody made.
func TestLeadOfAnything(t *testing.T) {
	r := rand.New(rand.NewSource(8))
	h, leaf := hashes(20), leafHashes(1)[0]
	for range 20000 {
		size := r.Int() >> r.Intn(63)
		p := api.Proof{Index: r.Int() >> r.Intn(63), Size: size, Path: h[:r.Intn(len(h))]}
		if size > 0 && r.Intn(4) > 0 {
			p.Index %= size
			p.Path = h[:min(len(h), max(0, wantAuditCount(p.Index, size)+r.Intn(5)/2-1))]
		}
		holdLead(t, fmt.Sprintf("index %d, size %d, %d hashes", p.Index, p.Size, len(p.Path)), p, leaf)
	}
}

// R4: nil and empty paths, leaves and roots mean the same.
func TestNilProofsAreEmptyOnes(t *testing.T) {
	leaf := leafHashes(1)[0]
	for _, path := range [][][]byte{nil, {}, hashes(3)[:0]} {
		if !proof.Check(api.Proof{Size: 1, Path: path}, leaf, leaf) {
			t.Error("R4: Check of one leaf and no path: false")
		}
		leadRefused(t, "no path of two", api.Proof{Size: 2, Path: path}, leaf, leaf)
		leadRefused(t, "the zero proof", api.Proof{Path: path}, leaf, leaf)
		for _, none := range [][]byte{nil, {}} {
			leadRefused(t, "no leaf", api.Proof{Size: 1, Path: path}, none, none)
		}
	}
}
