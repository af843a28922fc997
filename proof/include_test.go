package proof_test

import (
	"encoding/hex"
	"fmt"
	"math"
	"slices"
	"testing"

	"broadsheet/api"
	"broadsheet/proof"
	"broadsheet/tree"
)

// included tells the proof that Include must not refuse.
func included(t *testing.T, leaves [][]byte, index int) api.Proof {
	t.Helper()
	p, why := proof.Include(leaves, index)
	if why != api.OK || p.Index != index || p.Size != len(leaves) {
		t.Fatalf("P8.1: Include(%d of %d): index %d, size %d, %v", index, len(leaves), p.Index, p.Size, why)
	}
	return p
}

// P8.1: the run, spelt out: Include of 7 leaves at index 4.
func TestIncludeRun(t *testing.T) {
	l := leafHashes(7)
	p := included(t, l, 4)
	are(t, "P8.1: Include(7 leaves, 4)", p.Path, [][]byte{l[5], l[6], wantNode(wantNode(l[0], l[1]), wantNode(l[2], l[3]))})
}

// P8.1: the path of one leaf is none, and of a few leaves it is spelt out.
func TestIncludeOfFew(t *testing.T) {
	l := leafHashes(5)
	ab, cd := wantNode(l[0], l[1]), wantNode(l[2], l[3])
	for _, c := range []struct {
		size, index int
		path        [][]byte
	}{
		{1, 0, nil},
		{2, 0, [][]byte{l[1]}},
		{2, 1, [][]byte{l[0]}},
		{3, 0, [][]byte{l[1], l[2]}},
		{3, 1, [][]byte{l[0], l[2]}},
		{3, 2, [][]byte{ab}},
		{4, 0, [][]byte{l[1], cd}},
		{4, 3, [][]byte{l[2], ab}},
		{5, 1, [][]byte{l[0], cd, l[4]}},
		{5, 4, [][]byte{wantNode(ab, cd)}},
	} {
		p := included(t, l[:c.size], c.index)
		are(t, fmt.Sprintf("P8.1: Include(%d of %d)", c.index, c.size), p.Path, c.path)
	}
}

// P8.1, P8.4: each index of each size: the path against the roots of the parts, and that it checks.
func TestIncludeOfEach(t *testing.T) {
	l := leafHashes(70)
	for n := 1; n <= len(l); n++ {
		root := wantRoot(l[:n])
		is(t, fmt.Sprintf("tree.Root of %d", n), tree.Root(l[:n]), root)
		for i := range n {
			name := fmt.Sprintf("(%d of %d)", i, n)
			p := included(t, l[:n], i)
			are(t, "P8.1: Include"+name, p.Path, rootsOf(l[:n], wantAudit(i, n)))
			if len(p.Path) != wantAuditCount(i, n) {
				t.Errorf("P8.1: Include%s: %d hashes", name, len(p.Path))
			}
			told, ok := proof.Lead(p, l[i])
			if !ok || !proof.Right(p.Path) || !proof.Check(p, l[i], root) {
				t.Errorf("P8.4: what Include%s makes does not check", name)
			}
			is(t, "P8.4: Lead of what Include"+name+" makes", told, root)
		}
	}
}

// P8.1: paths of eight texts' leaves, worked out by another program.
func TestPathsWorkedOutElsewhere(t *testing.T) {
	l := textLeaves(t)
	for _, c := range []struct {
		index, size int
		root        string
		path        []string
	}{
		{0, 1, "6e340b9cffb37a989ca544e6bb780a2c78901d3fb33738768511a30617afa01d", nil},
		{0, 8, "5dc9da79a70659a9ad559cb701ded9a2ab9d823aad2f4960cfe370eff4604328", []string{
			"96a296d224f285c67bee93c30f8a309157f0daa35dc5b87e410b78630a09cfc7",
			"5f083f0a1a33ca076a95279832580db3e0ef4584bdff1f54c8a360f50de3031e",
			"6b47aaf29ee3c2af9af889bc1fb9254dabd31177f16232dd6aab035ca39bf6e4"}},
		{5, 8, "5dc9da79a70659a9ad559cb701ded9a2ab9d823aad2f4960cfe370eff4604328", []string{
			"bc1a0643b12e4d2d7c77918f44e0f4f79a838b6cf9ec5b5c283e1f4d88599e6b",
			"ca854ea128ed050b41b35ffc1b87b8eb2bde461e9e3b5596ece6b9d5975a0ae0",
			"d37ee418976dd95753c1c73862b9398fa2a2cf9b4ff0fdfe8b30cd95209614b7"}},
		{2, 3, "aeb6bcfe274b70a14fb067a5e5578264db0fa9b51af5e0ba159158f329e06e77", []string{
			"fac54203e7cc696cf0dfcb42c92a1d9dbaf70ad9e621f4bd8d98662f00e3c125"}},
		{1, 5, "4e3bbb1f7b478dcfe71fb631631519a3bca12c9aefca1612bfce4c13a86264d4", []string{
			"6e340b9cffb37a989ca544e6bb780a2c78901d3fb33738768511a30617afa01d",
			"5f083f0a1a33ca076a95279832580db3e0ef4584bdff1f54c8a360f50de3031e",
			"bc1a0643b12e4d2d7c77918f44e0f4f79a838b6cf9ec5b5c283e1f4d88599e6b"}},
		{6, 7, "ddb89be403809e325750d3d263cd78929c2942b7942a34b77e122c9594a74c8c", []string{
			"0ebc5d3437fbe2db158b9f126a1d118e308181031d0a949f8dededebc558ef6a",
			"d37ee418976dd95753c1c73862b9398fa2a2cf9b4ff0fdfe8b30cd95209614b7"}},
	} {
		name := fmt.Sprintf("P8.1: leaf %d of %d texts", c.index, c.size)
		are(t, name, included(t, l[:c.size], c.index).Path, unhex(t, c.path...))
		p := api.Proof{Index: c.index, Size: c.size, Path: unhex(t, c.path...)}
		if !proof.Check(p, l[c.index], unhex(t, c.root)[0]) {
			t.Errorf("%s: Check is false", name)
		}
	}
}

// textLeaves tells the leaves of the eight texts of which other programs have worked out roots and paths.
func textLeaves(t *testing.T) [][]byte {
	t.Helper()
	var l [][]byte
	for _, text := range unhex(t, "", "00", "10", "2021", "3031", "40414243", "5051525354555657", "606162636465666768696a6b6c6d6e6f") {
		l = append(l, tree.Leaf(text))
	}
	return l
}

func unhex(t *testing.T, texts ...string) [][]byte {
	t.Helper()
	var l [][]byte
	for _, text := range texts {
		b, err := hex.DecodeString(text)
		if err != nil {
			t.Fatal(err)
		}
		l = append(l, b)
	}
	return l
}

// P8.1, R3, R5: Include of an index that is none is refused, and its proof is the zero value.
func TestIncludeRefused(t *testing.T) {
	room := leafHashes(50)
	for n := range 40 {
		for _, index := range []int{-1, -2, -n, -n - 1, n, n + 1, 2*n + 1, 1 << 32, -1 << 32, math.MaxInt, math.MaxInt - 1, math.MinInt, math.MinInt + 1} {
			if n > 0 && index == 0 {
				continue
			}
			for _, l := range [][][]byte{room[:n], slices.Clip(leafHashes(n))} {
				p, why := proof.Include(l, index)
				if why != api.ErrArg || p.Index != 0 || p.Size != 0 || len(p.Path) != 0 {
					t.Errorf("P8.1: Include(%d of %d): %v, %v", index, n, p, why)
				}
			}
		}
	}
}

// P8.1, R4: of no leaves no index is one, of nil as of an empty list, whatever is in the room behind it.
func TestIncludeOfNone(t *testing.T) {
	for _, none := range [][][]byte{nil, {}, leafHashes(4)[:0]} {
		for _, index := range []int{0, 1, -1, math.MaxInt, math.MinInt} {
			p, why := proof.Include(none, index)
			if why != api.ErrArg || p.Index != 0 || p.Size != 0 || len(p.Path) != 0 {
				t.Errorf("P8.1: Include(%d of none): %v, %v", index, p, why)
			}
		}
	}
}

// P8.1, R1, R4: Include asks no form of leaves: the path has the roots of parts of whatever they are, nil leaves as empty ones. Such a proof is made, but what is no hash does not check.
func TestIncludeOfOddLeaves(t *testing.T) {
	for n := 1; n < 20; n++ {
		var l [][]byte
		for i := range n {
			l = append(l, noise(i*i*7%100))
		}
		l[n/2] = nil
		empty := slices.Clone(l)
		empty[n/2] = []byte{}
		for i := range n {
			name := fmt.Sprintf("P8.1: Include(%d of %d leaves of unlike lengths)", i, n)
			want := rootsOf(l, wantAudit(i, n))
			p := included(t, l, i)
			are(t, name, p.Path, want)
			are(t, name+", one of them empty", included(t, empty, i).Path, want)
			if told, ok := proof.Lead(p, l[i]); ok != (len(l[i]) == 32 && wantRight(want)) || !ok && len(told) != 0 {
				t.Errorf("%s: Lead: %x, %v", name, told, ok)
			}
		}
	}
}

// P8.1, P8.4: trees as great as MaxProof hashes are enough for, and one leaf more: then the first leaves' paths are too long to be right, the last one's is short.
func TestIncludeOfVeryMany(t *testing.T) {
	l := leafHashes(1<<api.MaxProof + 1)
	most := l[:1<<api.MaxProof]
	root := tree.Root(most)
	for _, i := range []int{0, 1, 12345, len(most) - 1} {
		p := included(t, most, i)
		if len(p.Path) != api.MaxProof || !proof.Check(p, l[i], root) {
			t.Errorf("P8.4: Include(%d of %d): %d hashes, or it does not check", i, len(most), len(p.Path))
		}
	}
	all := wantNode(root, l[len(most)])
	p := included(t, l, len(most))
	are(t, "P8.1: Include of the last of very many", p.Path, [][]byte{root})
	if !proof.Check(p, l[len(most)], all) {
		t.Error("P8.4: Include of the last of very many does not check")
	}
	p = included(t, l, 7)
	if len(p.Path) != api.MaxProof+1 || proof.Right(p.Path) || proof.Check(p, l[7], all) {
		t.Errorf("P8.1: a path of more than MaxProof: %d hashes, or it checks", len(p.Path))
	}
}

// P8.1: Right of as many hashes as may be, and of more.
func TestRightCounts(t *testing.T) {
	for n := range 40 {
		h := hashes(n)
		if got := proof.Right(h); got != (n <= 16) {
			t.Errorf("P8.1: Right of %d hashes: %v", n, got)
		}
	}
	if proof.Right(hashes(5000)) || api.MaxProof != 16 {
		t.Error("P8.1: Right of very many hashes")
	}
	for _, none := range [][][]byte{nil, {}, hashes(3)[:0], make([][]byte, 30)[:0]} {
		if !proof.Right(none) {
			t.Error("P8.1: Right of no hashes: false")
		}
	}
	same := hashes(1)[0]
	if !proof.Right([][]byte{same, same, same}) || !proof.Right([][]byte{make([]byte, 32)}) {
		t.Error("P8.1: Right of a hash that stands there thrice, or of zero bytes: false")
	}
}

// P8.1: Right of a text that is no hash, in each place.
func TestRightOfNoHashes(t *testing.T) {
	for name, wrong := range wrongLengths() {
		for n := 1; n <= 18; n++ {
			for at := range n {
				h := hashes(n)
				h[at] = wrong
				if proof.Right(h) {
					t.Errorf("P8.1: Right of %d hashes, number %d %s: true", n, at, name)
				}
			}
		}
	}
	h := hashes(2)
	if proof.Right([][]byte{h[0][:31], append(h[1][:32:32], 1)}) {
		t.Error("P8.1: Right of one too short and one too long by as much: true")
	}
}

// R5: the room behind a path and behind its hashes is not read.
func TestRightReadsNoRoom(t *testing.T) {
	h := append(hashes(2), nil, noise(5))
	long := noise(100)
	if !proof.Right(h[:2]) || !proof.Right(append(hashes(16), nil)[:16]) || !proof.Right([][]byte{long[:32], long[40:72]}) {
		t.Error("R5: Right hangs on the room behind")
	}
}
