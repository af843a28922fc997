package compact_test

import (
	"encoding/hex"
	"fmt"
	"math/bits"
	"testing"

	"broadsheet/api"
	"broadsheet/compact"
	"broadsheet/hash"
	"broadsheet/tree"
)

// P7.1, P7.2: a range of none.
func TestNew(t *testing.T) {
	r := compact.New()
	if r == nil || r.Size() != 0 || len(r.Nodes()) != 0 || len(each(r)) != 0 {
		t.Fatalf("P7.1: New: %v", r)
	}
	is(t, "P7.2: Root of none", r.Root(), hash.Sum(nil))
	if got := hex.EncodeToString(r.Root()); got != "e3b0c44298fc1c149afbf4c8996fb92427ae41e4649b934ca495991b7852b855" {
		t.Errorf("P7.2: Root of none: %s", got)
	}
}

// P7.1: the chapter's run.
func TestThreeLeaves(t *testing.T) {
	a, b, c := tree.Leaf([]byte("a")), tree.Leaf([]byte("b")), tree.Leaf([]byte("c"))
	r := grown([][]byte{a, b, c})
	are(t, "P7.1: three leaves: Nodes", r.Nodes(), [][]byte{tree.Node(a, b), c})
	is(t, "P7.2: three leaves: Root", r.Root(), tree.Node(tree.Node(a, b), c))
}

// P7.1: the nodes of few leaves, spelt out.
func TestNodesOfFew(t *testing.T) {
	l := leafHashes(8)
	ab, cd, ef, gh := tree.Node(l[0], l[1]), tree.Node(l[2], l[3]), tree.Node(l[4], l[5]), tree.Node(l[6], l[7])
	abcd, efgh := tree.Node(ab, cd), tree.Node(ef, gh)
	for n, want := range [][][]byte{
		{}, {l[0]}, {ab}, {ab, l[2]}, {abcd}, {abcd, l[4]}, {abcd, ef}, {abcd, ef, l[6]}, {tree.Node(abcd, efgh)},
	} {
		are(t, fmt.Sprintf("P7.1: Nodes of %d", n), grown(l[:n]).Nodes(), want)
	}
}

// P7.1, P7.2: a range that grows leaf for leaf, at each size up to more than a log has.
func TestGrowth(t *testing.T) {
	l := leafHashes(api.MaxLeaves + 4)
	r := compact.New()
	for n := range len(l) + 1 {
		name := fmt.Sprintf("P7.1, P7.2: %d leaves", n)
		if got := len(r.Nodes()); got != bits.OnesCount(uint(n)) {
			t.Errorf("%s: %d Nodes", name, got)
		}
		tells(t, name, r, l[:n])
		if n < len(l) {
			r.Append(l[n])
		}
	}
}

// P7.1, P7.2: many leaves, of which nothing is asked meanwhile.
func TestManyLeaves(t *testing.T) {
	l := leafHashes(5000)
	tells(t, "P7.1, P7.2: 5000 leaves", grown(l), l)
}

// P7.2: roots of eight texts and of their beginnings, worked out by another program.
func TestRootsWorkedOutElsewhere(t *testing.T) {
	texts := []string{"", "00", "10", "2021", "3031", "40414243", "5051525354555657", "606162636465666768696a6b6c6d6e6f"}
	roots := []string{
		"e3b0c44298fc1c149afbf4c8996fb92427ae41e4649b934ca495991b7852b855",
		"6e340b9cffb37a989ca544e6bb780a2c78901d3fb33738768511a30617afa01d",
		"fac54203e7cc696cf0dfcb42c92a1d9dbaf70ad9e621f4bd8d98662f00e3c125",
		"aeb6bcfe274b70a14fb067a5e5578264db0fa9b51af5e0ba159158f329e06e77",
		"d37ee418976dd95753c1c73862b9398fa2a2cf9b4ff0fdfe8b30cd95209614b7",
		"4e3bbb1f7b478dcfe71fb631631519a3bca12c9aefca1612bfce4c13a86264d4",
		"76e67dadbcdf1e10e1b74ddc608abd2f98dfb16fbce75277b5232a127f2087ef",
		"ddb89be403809e325750d3d263cd78929c2942b7942a34b77e122c9594a74c8c",
		"5dc9da79a70659a9ad559cb701ded9a2ab9d823aad2f4960cfe370eff4604328",
	}
	r := compact.New()
	for n, want := range roots {
		if got := hex.EncodeToString(r.Root()); got != want {
			t.Errorf("P7.2: Root of %d: %s, want %s", n, got, want)
		}
		if n < len(texts) {
			text, _ := hex.DecodeString(texts[n])
			r.Append(tree.Leaf(text))
		}
	}
}

// P7.2: Root of one leaf is it, and is not hashed, whatever its length.
func TestRootOfOne(t *testing.T) {
	for _, n := range []int{0, 1, 31, 32, 33, 1000} {
		is(t, fmt.Sprintf("P7.2: Root of one leaf of %d bytes", n), grown([][]byte{noise(n)}).Root(), noise(n))
	}
	is(t, "P7.2: Root of one nil leaf", grown([][]byte{nil}).Root(), nil)
}

// P7.1: Append asks no form: leaves of whatever length, nil ones among them, are taken as they are.
func TestOddLeaves(t *testing.T) {
	var odd [][]byte
	r, nils := compact.New(), compact.New()
	for n := range 40 {
		tells(t, fmt.Sprintf("P7.1: %d leaves of unlike lengths", n), r, odd)
		tells(t, fmt.Sprintf("P7.1: %d nil leaves", n), nils, make([][]byte, n))
		leaf := noise(n * n * 7 % 100)
		if n%5 == 3 {
			leaf = nil
		}
		odd = append(odd, leaf)
		r.Append(leaf)
		nils.Append(nil)
	}
	long := [][]byte{noise(api.MaxRecord), nil, noise(100000)}
	tells(t, "P7.1: long leaves", grown(long), long)
}

// R4: a nil leaf means what an empty one does.
func TestNilLeavesAreEmptyOnes(t *testing.T) {
	for n := 1; n < 20; n++ {
		for at := range n {
			nils, empties := leafHashes(n), leafHashes(n)
			nils[at], empties[at] = nil, noise(9)[:0]
			name := fmt.Sprintf("R4: %d leaves, number %d nil", n, at)
			are(t, name+": Nodes", grown(nils).Nodes(), grown(empties).Nodes())
			is(t, name+": Root", grown(nils).Root(), grown(empties).Root())
		}
	}
}

// P7.1: a leaf that is there twice counts twice.
func TestOneLeafManyTimes(t *testing.T) {
	one := leafHashes(1)[0]
	r := compact.New()
	var l [][]byte
	for n := range 20 {
		tells(t, fmt.Sprintf("P7.1: one leaf %d times", n), r, l)
		l = append(l, one)
		r.Append(one)
	}
}

// P7.1: Each hands out each node once, in order, at each call.
func TestEach(t *testing.T) {
	l := leafHashes(70)
	for n := range l {
		r := grown(l[:n])
		calls := 0
		r.Each(func(node []byte) {
			if want := wantNodes(l[:n]); calls < len(want) {
				is(t, fmt.Sprintf("P7.1: Each of %d, call %d", n, calls), node, want[calls])
			}
			calls++
		})
		if calls != bits.OnesCount(uint(n)) {
			t.Errorf("P7.1: Each of %d: %d calls", n, calls)
		}
		are(t, fmt.Sprintf("P7.1: Each of %d once more", n), each(r), r.Nodes())
	}
}

// P7.1, R1: Each of an f that is nil ends, and changes nothing.
func TestEachOfNil(t *testing.T) {
	for n := range 10 {
		l := leafHashes(n + 1)
		r := grown(l[:n])
		r.Each(nil)
		tells(t, fmt.Sprintf("R1: %d leaves, behind Each(nil)", n), r, l[:n])
		r.Append(l[n])
		tells(t, fmt.Sprintf("R1: %d leaves, behind Each(nil) and Append", n), r, l)
	}
}

// R4: later answers do not hang on how often a range was asked, and what.
func TestAskingChangesNothing(t *testing.T) {
	l := leafHashes(40)
	asked := compact.New()
	for n, leaf := range l {
		for range 3 {
			asked.Root()
			asked.Nodes()
			asked.Size()
			each(asked)
		}
		tells(t, fmt.Sprintf("R4: %d leaves, asked often", n), asked, l[:n])
		asked.Append(leaf)
	}
	are(t, "R4: asked often", asked.Nodes(), grown(l).Nodes())
}

// R4: ranges are by themselves: what is appended to one is not seen in another.
func TestRangesAreByThemselves(t *testing.T) {
	l := leafHashes(50)
	r, other := compact.New(), compact.New()
	for n := range 25 {
		tells(t, fmt.Sprintf("R4: the one of two, %d leaves", n), r, l[:n])
		tells(t, fmt.Sprintf("R4: the other of two, %d leaves", n), other, l[25:25+n])
		r.Append(l[n])
		other.Append(l[25+n])
	}
}
