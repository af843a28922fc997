package compact_test

import (
	"fmt"
	"math"
	"math/bits"
	"slices"
	"testing"

	"broadsheet/api"
	"broadsheet/compact"
	"broadsheet/hash"
	"broadsheet/tree"
)

// hashes tells n hashes, no two alike.
func hashes(n int) [][]byte {
	l := make([][]byte, 0, n)
	for i := range n {
		l = append(l, hash.Sum([]byte(fmt.Sprint("node ", i))))
	}
	return l
}

// refused holds what From answers against a refusal, with no range beside it.
func refused(t *testing.T, name string, size int, nodes [][]byte, want api.Errno) {
	t.Helper()
	if r, why := compact.From(size, nodes); r != nil || why != want {
		t.Errorf("P7.1: From(%d, %s): %v, %v, want %v", size, name, r, why, want)
	}
}

// P7.1: From of each size and its Nodes tells what the range told, and goes on as it does.
func TestFromGoesOn(t *testing.T) {
	l := leafHashes(140)
	for n := range 100 {
		r := grown(l[:n])
		back := from(t, r.Size(), r.Nodes())
		for more := n; more < n+40; more++ {
			tells(t, fmt.Sprintf("P7.1: From of %d leaves, gone on to %d", n, more), back, l[:more])
			is(t, fmt.Sprintf("P7.1: From of %d leaves, gone on to %d: both Roots", n, more), back.Root(), r.Root())
			back.Append(l[more])
			r.Append(l[more])
		}
		tells(t, fmt.Sprintf("P7.1: %d leaves, gone on", n), r, l[:n+40])
	}
}

// P7.1: a range that is taken up anew behind each leaf.
func TestFromAgainAndAgain(t *testing.T) {
	l := leafHashes(100)
	r := compact.New()
	for n, leaf := range l {
		tells(t, fmt.Sprintf("P7.1: From again and again, %d leaves", n), r, l[:n])
		r.Append(leaf)
		r = from(t, r.Size(), each(r))
	}
}

// P7.1, R4: From of no leaves is New, of nil as of an empty list, whatever is in the room behind it.
func TestFromOfNone(t *testing.T) {
	l := leafHashes(3)
	for _, none := range [][][]byte{nil, {}, hashes(4)[:0]} {
		r := from(t, 0, none)
		tells(t, "P7.1: From(0)", r, nil)
		r.Append(l[0])
		r.Append(l[1])
		r.Append(l[2])
		tells(t, "P7.1: From(0) and three leaves", r, l)
	}
}

// P7.1: From takes any hashes as nodes: all zeros, and the same one again and again.
func TestFromOfAnyHashes(t *testing.T) {
	zeros := make([]byte, api.HashSize)
	r := from(t, 7, [][]byte{zeros, zeros, zeros})
	are(t, "P7.1: From of zeros: Nodes", r.Nodes(), [][]byte{zeros, zeros, zeros})
	is(t, "P7.2: From of zeros: Root", r.Root(), tree.Node(zeros, tree.Node(zeros, zeros)))
}

// P7.1: a size below 0 is refused, whatever the nodes are.
func TestFromOfSizesBelowNone(t *testing.T) {
	h := hashes(64)
	for _, size := range []int{-1, -2, -3, -8, -1 << 31, -1 << 32, math.MinInt + 1, math.MinInt} {
		for name, nodes := range map[string][][]byte{
			"nil":               nil,
			"no node":           {},
			"a node":            h[:1],
			"a nil node":        {nil},
			"a short node":      {h[0][:31]},
			"nodes and a nil":   {h[0], nil},
			"all nodes":         h,
			"a node a bit":      h[:bits.OnesCount(uint(size))],
			"a node a bit of -": h[:bits.OnesCount(uint(-size))],
		} {
			refused(t, name, size, nodes, api.ErrArg)
		}
	}
}

// P7.1: for each size up to some dozens and each number of nodes: no other number than that of its bits is taken.
func TestFromOfTooFewOrTooMany(t *testing.T) {
	h := hashes(70)
	for size := range 70 {
		for n := range len(h) + 1 {
			if n == bits.OnesCount(uint(size)) {
				from(t, size, h[:n])
				continue
			}
			refused(t, fmt.Sprint(n, " nodes"), size, h[:n], api.ErrForm)
		}
	}
	refused(t, "one node", 3, h[:1], api.ErrForm)
	refused(t, "nil", 1, nil, api.ErrForm)
	refused(t, "no node", 1, [][]byte{}, api.ErrForm)
	refused(t, "a node", 0, h[:1], api.ErrForm)
	refused(t, "a nil node", 0, [][]byte{nil}, api.ErrForm)
	refused(t, "too many, one of them nil", 2, [][]byte{h[0], nil}, api.ErrForm)
	refused(t, "a node a leaf", 3, h[:3], api.ErrForm)
}

// P7.1: a node that is no hash is refused, wherever it stands.
func TestFromOfNoHashes(t *testing.T) {
	long := noise(100)
	for name, wrong := range map[string][]byte{
		"nil":                nil,
		"empty":              {},
		"of one byte":        {1},
		"one short":          long[:api.HashSize-1],
		"one long":           long[:api.HashSize+1],
		"twice as long":      long[:2*api.HashSize],
		"empty with room":    long[:0:api.HashSize],
		"one short, clipped": slices.Clip(long[:api.HashSize-1]),
	} {
		for size := 1; size < 40; size++ {
			n := bits.OnesCount(uint(size))
			for at := range n {
				nodes := hashes(n)
				nodes[at] = wrong
				refused(t, fmt.Sprintf("node %d %s", at, name), size, nodes, api.ErrForm)
			}
		}
	}
	h := hashes(1)[0]
	refused(t, "one too short, one too long by as much", 3, [][]byte{h[:31], append(h[:32:32], 1)}, api.ErrForm)
}

// R5: the room behind the nodes' list, and behind a node, is not read.
func TestFromReadsNoRoom(t *testing.T) {
	h := hashes(2)
	behind := [][]byte{h[0], nil, noise(5)}
	are(t, "R5: From of a list with no hashes behind it", from(t, 4, behind[:1]).Nodes(), h[:1])
	refused(t, "one node, another behind the list", 3, h[:1], api.ErrForm)
	long := noise(100)
	r := from(t, 3, [][]byte{long[:api.HashSize], long[api.HashSize : 2*api.HashSize]})
	are(t, "R5: From of nodes with room", r.Nodes(), [][]byte{long[:32:32], long[32:64:64]})
}

// greatSizes tells each power of two that an int has, one below it, one above it, and the greatest int.
func greatSizes() []int {
	sizes := []int{math.MaxInt}
	for power := 1; power > 0; power *= 2 {
		sizes = append(sizes, power-1, power, power+1)
	}
	return sizes
}

// P7.1, P7.2: From of great sizes, with as many nodes as bits: what the range tells.
func TestFromOfGreatSizes(t *testing.T) {
	for _, size := range greatSizes() {
		n := bits.OnesCount(uint(size))
		h := hashes(n + 1)
		r := from(t, size, h[:n])
		if r.Size() != size {
			t.Errorf("P7.1: From(%d): Size %d", size, r.Size())
		}
		are(t, fmt.Sprintf("P7.1: From(%d): Nodes", size), r.Nodes(), h[:n])
		are(t, fmt.Sprintf("P7.1: From(%d): Each", size), each(r), h[:n])
		if size > 0 {
			is(t, fmt.Sprintf("P7.2: From(%d): Root", size), r.Root(), wantFolded(h[:n]))
			refused(t, "one node too few", size, h[:n-1], api.ErrForm)
		}
		refused(t, "one node too many", size, h, api.ErrForm)
	}
}

// P7.1: a leaf that is appended to a great range joins as many nodes as its size ends in set bits.
func TestAppendToGreatSizes(t *testing.T) {
	for _, size := range greatSizes() {
		if size == math.MaxInt {
			continue // no int is one more
		}
		h := hashes(bits.OnesCount(uint(size)))
		r := from(t, size, h)
		leaf := leafHashes(1)[0]
		r.Append(leaf)
		whole := bits.OnesCount(uint(size)) - bits.OnesCount(uint(size&(size+1)))
		want := append(slices.Clone(h[:len(h)-whole]), wantFolded(append(slices.Clone(h[len(h)-whole:]), leaf)))
		if r.Size() != size+1 {
			t.Errorf("P7.1: From(%d) and a leaf: Size %d", size, r.Size())
		}
		are(t, fmt.Sprintf("P7.1: From(%d) and a leaf: Nodes", size), r.Nodes(), want)
		is(t, fmt.Sprintf("P7.2: From(%d) and a leaf: Root", size), r.Root(), wantFolded(want))
	}
}

// R1: a range of the greatest int takes leaves too: no Size can be told of it, its nodes are still those of all leaves.
func TestAppendToTheGreatestInt(t *testing.T) {
	h, l := hashes(bits.OnesCount(math.MaxInt)), leafHashes(3)
	r := from(t, math.MaxInt, h)
	r.Append(l[0])
	top := wantFolded(append(slices.Clone(h), l[0]))
	are(t, "R1: the greatest int and a leaf: Nodes", r.Nodes(), [][]byte{top})
	r.Append(l[1])
	r.Append(l[2])
	r.Size()
	are(t, "R1: the greatest int and three leaves: Nodes", r.Nodes(), [][]byte{top, tree.Node(l[1], l[2])})
	is(t, "R1: the greatest int and three leaves: Root", r.Root(), tree.Node(top, tree.Node(l[1], l[2])))
}
