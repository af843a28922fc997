package tree_test

import (
	"bytes"
	"fmt"
	"slices"
	"testing"

	"broadsheet/tree"
)

// spoil writes over b and over the room behind it.
func spoil(b []byte) {
	b = b[:cap(b)]
	for i := range b {
		b[i] ^= 0xff
	}
}

// roomy tells the texts of l, each with room behind it, in a list with room behind it.
func roomy(l [][]byte) [][]byte {
	list := make([][]byte, 0, len(l)+3)
	for _, b := range l {
		list = append(list, append(bytes.Clone(b), noise(50)...)[:len(b)])
	}
	behind := append(list, noise(7), noise(8), noise(9))
	return behind[:len(l)]
}

// reached is all that a list of texts reaches: the room behind each and behind the list too, and where each lies.
type reached struct {
	lists, texts [][]byte
}

func reach(l [][]byte) reached {
	var r reached
	r.lists = slices.Clone(l[:cap(l)])
	for _, b := range r.lists {
		r.texts = append(r.texts, bytes.Clone(b[:cap(b)]))
	}
	return r
}

// stays: is all as it was that l reached?
func (r reached) stays(l [][]byte) bool {
	for i, b := range l[:cap(l)] {
		was := r.lists[i]
		if len(b) != len(was) || cap(b) != cap(was) || !bytes.Equal(b[:cap(b)], r.texts[i]) || cap(b) > 0 && &b[:1][0] != &was[:1][0] {
			return false
		}
	}
	return cap(l) == len(r.lists)
}

// R2: what Leaf and Node are given is not changed, in its length or behind it, also where one text lies behind the other; nor when their answers are written over.
func TestTextsStay(t *testing.T) {
	for _, n := range []int{0, 1, 31, 32, 33, 64, 100} {
		b := noise(2*n + 200)
		for range 2 {
			is(t, "R2: Leaf of a text with room", tree.Leaf(b[:n]), wantLeaf(noise(2*n + 200)[:n]))
			is(t, "R2: Node of texts with room", tree.Node(b[:n], b[n:2*n]), wantNode(noise(2*n + 200)[:n], noise(2*n + 200)[n:2*n]))
			spoil(tree.Leaf(b[:n]))
			spoil(tree.Node(b[:n], b[n:2*n]))
			spoil(tree.Node(b[:n], b[:n]))
		}
		is(t, fmt.Sprintf("R2: %d bytes and the room behind them", n), b, noise(2*n+200))
	}
}

// R2: leaves that are handed in are not changed, in any length or behind it, and their list still has the same ones; nor when answers are written over.
func TestLeavesStay(t *testing.T) {
	for n := range 20 {
		l := roomy(leafHashes(n))
		before := reach(l)
		for range 2 {
			root := tree.Root(l)
			is(t, fmt.Sprintf("R2: Root of %d leaves with room", n), root, wantRoot(leafHashes(n)))
			spoil(root)
			for from := -1; from <= n+1; from++ {
				for to := -1; to <= n+1; to++ {
					spoil(tree.Range(l, from, to))
				}
			}
			if !before.stays(l) {
				t.Fatalf("R2: %d leaves: they, their list or the room behind them changed", n)
			}
		}
	}
}

// R2: Root of one leaf and Range of one are memory of their own, wherever the leaf stands.
func TestRootOfOneIsACopy(t *testing.T) {
	for _, size := range []int{1, 31, 32, 33, 64} {
		l := [][]byte{noise(size), noise(size + 1), noise(size + 2)}
		for at := range l {
			for name, ask := range map[string]func() []byte{
				"Root":  func() []byte { return tree.Root(l[at : at+1]) },
				"Range": func() []byte { return tree.Range(l, at, at+1) },
			} {
				spoil(ask())
				is(t, "R2: "+name+" of one was written over: the leaf", l[at], noise(size+at))
				kept := ask()
				spoil(l[at])
				is(t, "R2: "+name+" of one, its leaf changed", kept, noise(size+at))
				spoil(l[at])
			}
		}
	}
}

// R2: the room behind an answer is new memory too: that of a leaf's, which has room, stays.
func TestRoomOfAnswers(t *testing.T) {
	long := noise(100)
	l := [][]byte{long[:10], long[10:20]}
	for _, answer := range [][]byte{tree.Root(l[:1]), tree.Range(l, 0, 1), tree.Range(l, 1, 2), tree.Root(l)} {
		_ = append(answer, noise(90)...)
		spoil(answer)
		is(t, "R2: leaves in one text, an answer written over", long, noise(100))
	}
}

// R2: what was given may be changed afterwards: no answer hangs on it any more.
func TestNothingIsKept(t *testing.T) {
	b, l := noise(40), leafHashes(9)
	leaf, node, root, some := tree.Leaf(b), tree.Node(b, b[:7]), tree.Root(l), tree.Range(l, 2, 7)
	spoil(b)
	for i := range l {
		spoil(l[i])
	}
	clear(l)
	is(t, "R2: Leaf, its text changed", leaf, wantLeaf(noise(40)))
	is(t, "R2: Node, its sides changed", node, wantNode(noise(40), noise(40)[:7]))
	is(t, "R2: Root, its leaves changed", root, wantRoot(leafHashes(9)))
	is(t, "R2: Range, its leaves changed", some, wantRoot(leafHashes(9)[2:7]))
	is(t, "R2: Leaf of a changed text", tree.Leaf(b), wantLeaf(b))
	is(t, "R2: Root of a changed list", tree.Root(l), wantRoot(make([][]byte, 9)))
}

// R2, R4: who asked may write into answers, and into the room behind them: no other and no later answer changes.
func TestAnswersAreNewMemory(t *testing.T) {
	l := leafHashes(5)
	asks := map[string]func() []byte{
		"Leaf":           func() []byte { return tree.Leaf([]byte("m")) },
		"Leaf of none":   func() []byte { return tree.Leaf(nil) },
		"Node":           func() []byte { return tree.Node(l[0], l[1]) },
		"Node of none":   func() []byte { return tree.Node(nil, nil) },
		"Root":           func() []byte { return tree.Root(l) },
		"Root of none":   func() []byte { return tree.Root(nil) },
		"Root of one":    func() []byte { return tree.Root(l[:1]) },
		"Range":          func() []byte { return tree.Range(l, 1, 4) },
		"Range of none":  func() []byte { return tree.Range(l, 2, 2) },
		"Range of one":   func() []byte { return tree.Range(l, 2, 3) },
		"Range of a nil": func() []byte { return tree.Range([][]byte{nil}, 0, 1) },
	}
	for name, ask := range asks {
		first, second := ask(), ask()
		want := bytes.Clone(second)
		is(t, "R4: "+name+" asked twice", first, want)
		spoil(first)
		is(t, "R2: "+name+", an earlier answer written over", second, want)
		is(t, "R2: "+name+" asked again", ask(), want)
	}
}
