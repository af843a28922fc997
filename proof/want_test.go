package proof_test

import (
	"bytes"
	"crypto/sha256"
	"fmt"
	"math"
	"math/bits"
	"math/rand"
	"slices"
	"testing"

	"broadsheet/api"
)

// The chapter's words written down another way, by the library's sums, for the program to be held against. The program goes by recursion: here paths are parts of the list, told by a loop from the whole downward, and roots and counts come from the bits of numbers, from the leaf upward.

func sum(parts ...[]byte) []byte {
	s := sha256.Sum256(bytes.Join(parts, nil))
	return s[:]
}

func wantLeaf(b []byte) []byte { return sum([]byte{0}, b) }

func wantNode(left, right []byte) []byte { return sum([]byte{1}, left, right) }

// wantRoot tells the root leaf for leaf, by the tops of whole trees.
func wantRoot(leaves [][]byte) []byte {
	if len(leaves) == 0 {
		return sum()
	}
	var tops [][]byte
	for n, leaf := range leaves {
		top := leaf
		for n%2 == 1 {
			top = wantNode(tops[len(tops)-1], top)
			tops = tops[:len(tops)-1]
			n /= 2
		}
		tops = append(tops, top)
	}
	root := tops[len(tops)-1]
	for i := len(tops) - 2; i >= 0; i-- {
		root = wantNode(tops[i], root)
	}
	return root
}

// part is the leaves from the one number on, below the other.
type part struct{ from, to int }

// below tells the greatest power of two below n, which is above 1.
func below(n int) int {
	power := 1
	for power*2 < n {
		power *= 2
	}
	return power
}

// wantAudit tells of which parts an audit path has the roots: those left over on the way down to the leaf, the last one first.
func wantAudit(index, size int) []part {
	var parts []part
	for here := (part{0, size}); here.to-here.from > 1; {
		middle := here.from + below(here.to-here.from)
		if index < middle {
			parts = append(parts, part{middle, here.to})
			here.to = middle
		} else {
			parts = append(parts, part{here.from, middle})
			here.from = middle
		}
	}
	slices.Reverse(parts)
	return parts
}

// wantGrowth tells of which parts a consistency path has the roots: those left over on the way down to the part that ends where the old tree does, the last one first; ahead of them that part itself, unless it is the whole old tree.
func wantGrowth(from, to int) []part {
	var parts []part
	if from == 0 {
		return parts
	}
	here := part{0, to}
	for here.to != from {
		middle := here.from + below(here.to-here.from)
		if from <= middle {
			parts = append(parts, part{middle, here.to})
			here.to = middle
		} else {
			parts = append(parts, part{here.from, middle})
			here.from = middle
		}
	}
	if here.from > 0 {
		parts = append(parts, here)
	}
	slices.Reverse(parts)
	return parts
}

// rootsOf tells the root of each part of leaves.
func rootsOf(leaves [][]byte, parts []part) [][]byte {
	var roots [][]byte
	for _, p := range parts {
		roots = append(roots, wantRoot(leaves[p.from:p.to]))
	}
	return roots
}

func wantRight(path [][]byte) bool {
	return len(path) <= 16 && !slices.ContainsFunc(path, func(b []byte) bool { return len(b) != 32 })
}

// wantAuditCount tells how many hashes an audit path has: one for each level at which the leaf and the last one are not in one node yet, and above it one for each node on whose left there is something.
func wantAuditCount(index, size int) int {
	inner := bits.Len(uint(index ^ (size - 1)))
	return inner + bits.OnesCount(uint(index)>>inner)
}

// wantGrowthCount tells how many hashes a consistency path has, above 0 and below to: as many as lead from the last whole part of the old tree to the root, and that part, unless it is all.
func wantGrowthCount(from, to int) int {
	whole := bits.TrailingZeros(uint(from))
	n := wantAuditCount(from-1, to) - whole
	if from != 1<<whole {
		n++
	}
	return n
}

// wantLead leads a leaf upward as RFC 9162, 2.1.3.2 says it.
func wantLead(p api.Proof, leaf []byte) ([]byte, bool) {
	if !wantRight(p.Path) || len(leaf) != 32 || p.Index < 0 || p.Index >= p.Size {
		return nil, false
	}
	node, last, root := p.Index, p.Size-1, leaf
	for _, h := range p.Path {
		if last == 0 {
			return nil, false
		}
		if node%2 == 1 || node == last {
			root = wantNode(h, root)
			for node%2 == 0 && node != 0 {
				node, last = node/2, last/2
			}
		} else {
			root = wantNode(root, h)
		}
		node, last = node/2, last/2
	}
	if last != 0 {
		return nil, false
	}
	return root, true
}

// wantLeads leads both roots upward as RFC 9162, 2.1.4.2 says it.
func wantLeads(g api.Growth, old []byte) ([]byte, []byte, bool) {
	if !wantRight(g.Path) || g.From <= 0 || g.From >= g.To || len(old) != 32 {
		return nil, nil, false
	}
	path := g.Path
	if bits.OnesCount(uint(g.From)) == 1 {
		path = slices.Concat([][]byte{old}, path)
	}
	if len(path) == 0 {
		return nil, nil, false
	}
	node, last := g.From-1, g.To-1
	for node%2 == 1 {
		node, last = node/2, last/2
	}
	first, all := path[0], path[0]
	for _, h := range path[1:] {
		if last == 0 {
			return nil, nil, false
		}
		if node%2 == 1 || node == last {
			first, all = wantNode(h, first), wantNode(h, all)
			for node%2 == 0 && node != 0 {
				node, last = node/2, last/2
			}
		} else {
			all = wantNode(all, h)
		}
		node, last = node/2, last/2
	}
	if last != 0 {
		return nil, nil, false
	}
	return first, all, true
}

func wantCheckGrow(g api.Growth, old, now []byte) bool {
	if g.From < 0 || g.From > g.To {
		return false
	}
	if g.From == g.To {
		return len(g.Path) == 0 && bytes.Equal(old, now) && len(old) == 32 && len(now) == 32
	}
	if g.From == 0 {
		return len(g.Path) == 0 && bytes.Equal(old, sum()) && len(now) == 32
	}
	first, all, ok := wantLeads(g, old)
	return ok && bytes.Equal(first, old) && bytes.Equal(all, now)
}

// noise tells n bytes that are the same at each run.
func noise(n int) []byte {
	b := make([]byte, n)
	rand.New(rand.NewSource(int64(n) + 1)).Read(b)
	return b
}

// leafHashes tells n leaves, no two alike.
func leafHashes(n int) [][]byte {
	l := make([][]byte, 0, n)
	for i := range n {
		l = append(l, wantLeaf([]byte(fmt.Sprint("leaf ", i))))
	}
	return l
}

// hashes tells n hashes, no two alike, and none of them a leaf of leafHashes.
func hashes(n int) [][]byte {
	l := make([][]byte, 0, n)
	for i := range n {
		l = append(l, sum([]byte(fmt.Sprint("hash ", i))))
	}
	return l
}

// turned tells b with one bit turned.
func turned(b []byte) []byte {
	b = bytes.Clone(b)
	b[len(b)/2] ^= 1
	return b
}

// wrongLengths tells texts that are no hashes by their length alone.
func wrongLengths() map[string][]byte {
	long := noise(100)
	return map[string][]byte{
		"nil":             nil,
		"empty":           {},
		"of one byte":     {1},
		"one short":       slices.Clip(long[:31]),
		"one long":        slices.Clip(long[:33]),
		"twice as long":   slices.Clip(long[:64]),
		"short with room": long[:31],
		"empty with room": long[:0],
	}
}

// greatSizes tells each power of two that an int has, one below it and one above it, where that is above 0, and the greatest int.
func greatSizes() []int {
	sizes := []int{math.MaxInt}
	for power := 2; power > 0; power *= 2 {
		sizes = append(sizes, power-1, power, power+1)
	}
	return sizes
}

// places tells numbers below size, from 0 on: those at its ends, about its middle, and at powers of two.
func places(size int) []int {
	var l []int
	for _, n := range append(greatSizes(), 0, 1, size/2-1, size/2, size/2+1, size/3, size-3, size-2, size-1) {
		if n >= 0 && n < size {
			l = append(l, n)
		}
	}
	return l
}

// is holds bytes against those that the document asks for.
func is(t *testing.T, name string, got, want []byte) {
	t.Helper()
	if !bytes.Equal(got, want) {
		t.Errorf("%s: %x, want %x", name, got, want)
	}
}

// are holds texts against those that the document asks for, in order.
func are(t *testing.T, name string, got, want [][]byte) {
	t.Helper()
	if len(got) != len(want) {
		t.Errorf("%s: %d of them, want %d", name, len(got), len(want))
		return
	}
	for i := range want {
		is(t, fmt.Sprintf("%s, number %d", name, i), got[i], want[i])
	}
}
