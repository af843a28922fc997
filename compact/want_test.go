package compact_test

import (
	"bytes"
	"fmt"
	"math/rand"
	"testing"

	"broadsheet/api"
	"broadsheet/compact"
	"broadsheet/tree"
)

// noise tells n bytes that are the same at each run.
func noise(n int) []byte {
	b := make([]byte, n)
	rand.New(rand.NewSource(int64(n) + 1)).Read(b)
	return b
}

// leafHashes tells n leaves, no two alike.
func leafHashes(n int) [][]byte {
	l := make([][]byte, 0, n)
	for i := range n {
		l = append(l, tree.Leaf([]byte(fmt.Sprint("leaf ", i))))
	}
	return l
}

// grown tells the range to which all leaves were appended.
func grown(leaves [][]byte) *compact.Range {
	r := compact.New()
	for _, leaf := range leaves {
		r.Append(leaf)
	}
	return r
}

// from tells the range that From must not refuse.
func from(t *testing.T, size int, nodes [][]byte) *compact.Range {
	t.Helper()
	r, why := compact.From(size, nodes)
	if why != api.OK || r == nil {
		t.Fatalf("P7.1: From of size %d and %d nodes: %v, %v", size, len(nodes), r, why)
	}
	return r
}

// wantNodes tells the roots of whole trees over leaves, the powers of two gone through from a great one on.
func wantNodes(leaves [][]byte) [][]byte {
	var nodes [][]byte
	for size := 1 << 20; size > 0; size /= 2 {
		if len(leaves) >= size {
			nodes = append(nodes, tree.Root(leaves[:size]))
			leaves = leaves[size:]
		}
	}
	return nodes
}

// wantFolded tells the root that nodes lead to, the last two joined again and again.
func wantFolded(nodes [][]byte) []byte {
	if len(nodes) == 1 {
		return nodes[0]
	}
	last := len(nodes) - 1
	joined := tree.Node(nodes[last-1], nodes[last])
	return wantFolded(append(append([][]byte{}, nodes[:last-1]...), joined))
}

// each tells what Each hands out.
func each(r *compact.Range) [][]byte {
	var l [][]byte
	r.Each(func(node []byte) { l = append(l, node) })
	return l
}

// is holds bytes against those that the document asks for.
func is(t *testing.T, name string, got, want []byte) {
	t.Helper()
	if !bytes.Equal(got, want) {
		t.Errorf("%s: %x, want %x", name, got, want)
	}
}

// are holds texts against those that the document asks for, in order.
func are(t *testing.T, name string, got, want [][]byte) {
	t.Helper()
	if len(got) != len(want) {
		t.Errorf("%s: %d of them, want %d", name, len(got), len(want))
		return
	}
	for i := range want {
		is(t, fmt.Sprintf("%s, number %d", name, i), got[i], want[i])
	}
}

// tells holds all that a range tells against its leaves.
func tells(t *testing.T, name string, r *compact.Range, leaves [][]byte) {
	t.Helper()
	if r.Size() != len(leaves) {
		t.Errorf("%s: Size %d, want %d", name, r.Size(), len(leaves))
	}
	nodes := wantNodes(leaves)
	are(t, name+": Nodes", r.Nodes(), nodes)
	are(t, name+": Each", each(r), nodes)
	is(t, name+": Root", r.Root(), tree.Root(leaves))
}
