package proof_test

import (
	"fmt"
	"math"
	"slices"
	"testing"

	"broadsheet/api"
	"broadsheet/proof"
	"broadsheet/tree"
)

// grown tells the growth that Grow must not refuse.
func grown(t *testing.T, leaves [][]byte, from int) api.Growth {
	t.Helper()
	g, why := proof.Grow(leaves, from)
	if why != api.OK || g.From != from || g.To != len(leaves) {
		t.Fatalf("P8.2: Grow(%d of %d): from %d, to %d, %v", from, len(leaves), g.From, g.To, why)
	}
	return g
}

// P8.2: the paths of few leaves, spelt out.
func TestGrowOfFew(t *testing.T) {
	l := leafHashes(7)
	ab, cd, ef := wantNode(l[0], l[1]), wantNode(l[2], l[3]), wantNode(l[4], l[5])
	abcd := wantNode(ab, cd)
	for _, c := range []struct {
		from, to int
		path     [][]byte
	}{
		{0, 0, nil}, {0, 1, nil}, {0, 7, nil}, {1, 1, nil}, {4, 4, nil}, {7, 7, nil},
		{1, 2, [][]byte{l[1]}},
		{1, 3, [][]byte{l[1], l[2]}},
		{2, 3, [][]byte{l[2]}},
		{1, 4, [][]byte{l[1], cd}},
		{2, 4, [][]byte{cd}},
		{3, 4, [][]byte{l[2], l[3], ab}},
		{3, 5, [][]byte{l[2], l[3], ab, l[4]}},
		{4, 5, [][]byte{l[4]}},
		{3, 7, [][]byte{l[2], l[3], ab, wantNode(ef, l[6])}},
		{4, 7, [][]byte{wantNode(ef, l[6])}},
		{5, 7, [][]byte{l[4], l[5], l[6], abcd}},
		{6, 7, [][]byte{ef, l[6], abcd}},
	} {
		g := grown(t, l[:c.to], c.from)
		are(t, fmt.Sprintf("P8.2: Grow(%d of %d)", c.from, c.to), g.Path, c.path)
	}
}

// P8.2, P8.3, P8.4: each from of each size: the path against the roots of the parts, both roots, and that it checks.
func TestGrowOfEach(t *testing.T) {
	l := leafHashes(66)
	for n := range len(l) + 1 {
		now := wantRoot(l[:n])
		is(t, fmt.Sprintf("tree.Root of %d", n), tree.Root(l[:n]), now)
		for from := range n + 1 {
			name := fmt.Sprintf("(%d of %d)", from, n)
			g, old := grown(t, l[:n], from), wantRoot(l[:from])
			are(t, "P8.2: Grow"+name, g.Path, rootsOf(l[:n], wantGrowth(from, n)))
			if !proof.CheckGrow(g, old, now) || !proof.Right(g.Path) {
				t.Errorf("P8.4: what Grow%s makes does not check", name)
			}
			first, all, ok := proof.Leads(g, old)
			if from == 0 || from == n {
				if len(g.Path) != 0 || ok || len(first) != 0 || len(all) != 0 {
					t.Errorf("P8.2, P8.3: Grow%s: %d hashes, Leads: %x, %x, %v", name, len(g.Path), first, all, ok)
				}
				continue
			}
			if !ok || len(g.Path) != wantGrowthCount(from, n) {
				t.Errorf("P8.4: Leads of what Grow%s makes: %v, %d hashes", name, ok, len(g.Path))
			}
			is(t, "P8.3: the first of Grow"+name, first, old)
			is(t, "P8.3: all of Grow"+name, all, now)
		}
	}
}

// P8.2: paths of eight texts' leaves, worked out by another program.
func TestGrowthsWorkedOutElsewhere(t *testing.T) {
	l := textLeaves(t)
	for _, c := range []struct {
		from, to int
		old, now string
		path     []string
	}{
		{1, 8, "6e340b9cffb37a989ca544e6bb780a2c78901d3fb33738768511a30617afa01d", "5dc9da79a70659a9ad559cb701ded9a2ab9d823aad2f4960cfe370eff4604328", []string{
			"96a296d224f285c67bee93c30f8a309157f0daa35dc5b87e410b78630a09cfc7",
			"5f083f0a1a33ca076a95279832580db3e0ef4584bdff1f54c8a360f50de3031e",
			"6b47aaf29ee3c2af9af889bc1fb9254dabd31177f16232dd6aab035ca39bf6e4"}},
		{6, 8, "76e67dadbcdf1e10e1b74ddc608abd2f98dfb16fbce75277b5232a127f2087ef", "5dc9da79a70659a9ad559cb701ded9a2ab9d823aad2f4960cfe370eff4604328", []string{
			"0ebc5d3437fbe2db158b9f126a1d118e308181031d0a949f8dededebc558ef6a",
			"ca854ea128ed050b41b35ffc1b87b8eb2bde461e9e3b5596ece6b9d5975a0ae0",
			"d37ee418976dd95753c1c73862b9398fa2a2cf9b4ff0fdfe8b30cd95209614b7"}},
		{2, 5, "fac54203e7cc696cf0dfcb42c92a1d9dbaf70ad9e621f4bd8d98662f00e3c125", "4e3bbb1f7b478dcfe71fb631631519a3bca12c9aefca1612bfce4c13a86264d4", []string{
			"5f083f0a1a33ca076a95279832580db3e0ef4584bdff1f54c8a360f50de3031e",
			"bc1a0643b12e4d2d7c77918f44e0f4f79a838b6cf9ec5b5c283e1f4d88599e6b"}},
		{7, 8, "ddb89be403809e325750d3d263cd78929c2942b7942a34b77e122c9594a74c8c", "5dc9da79a70659a9ad559cb701ded9a2ab9d823aad2f4960cfe370eff4604328", []string{
			"b08693ec2e721597130641e8211e7eedccb4c26413963eee6c1e2ed16ffb1a5f",
			"46f6ffadd3d06a09ff3c5860d2755c8b9819db7df44251788c7d8e3180de8eb1",
			"0ebc5d3437fbe2db158b9f126a1d118e308181031d0a949f8dededebc558ef6a",
			"d37ee418976dd95753c1c73862b9398fa2a2cf9b4ff0fdfe8b30cd95209614b7"}},
		{3, 7, "aeb6bcfe274b70a14fb067a5e5578264db0fa9b51af5e0ba159158f329e06e77", "ddb89be403809e325750d3d263cd78929c2942b7942a34b77e122c9594a74c8c", []string{
			"0298d122906dcfc10892cb53a73992fc5b9f493ea4c9badb27b791b4127a7fe7",
			"07506a85fd9dd2f120eb694f86011e5bb4662e5c415a62917033d4a9624487e7",
			"fac54203e7cc696cf0dfcb42c92a1d9dbaf70ad9e621f4bd8d98662f00e3c125",
			"837dbb152e9b079010717e84e865da4ebc0fa198a806d59d31bf15accef22d0e"}},
	} {
		name := fmt.Sprintf("P8.2: from %d to %d texts", c.from, c.to)
		path := unhex(t, c.path...)
		are(t, name, grown(t, l[:c.to], c.from).Path, path)
		roots := unhex(t, c.old, c.now)
		if !proof.CheckGrow(api.Growth{From: c.from, To: c.to, Path: path}, roots[0], roots[1]) {
			t.Errorf("%s: CheckGrow is false", name)
		}
	}
}

// P8.2, R3, R5: Grow from below 0 or from more than there are is refused, and its growth is the zero value.
func TestGrowRefused(t *testing.T) {
	room := leafHashes(50)
	for n := range 40 {
		for _, from := range []int{-1, -2, -n - 1, n + 1, n + 2, 2*n + 1, 1 << 32, -1 << 32, math.MaxInt, math.MaxInt - 1, math.MinInt, math.MinInt + 1} {
			for _, l := range [][][]byte{room[:n], slices.Clip(leafHashes(n))} {
				g, why := proof.Grow(l, from)
				if why != api.ErrArg || g.From != 0 || g.To != 0 || len(g.Path) != 0 {
					t.Errorf("P8.2: Grow(%d of %d): %v, %v", from, n, g, why)
				}
			}
		}
	}
}

// P8.2, R4: of no leaves from 0 alone, of nil as of an empty list, whatever is in the room behind it.
func TestGrowOfNone(t *testing.T) {
	for _, none := range [][][]byte{nil, {}, leafHashes(4)[:0]} {
		g := grown(t, none, 0)
		if len(g.Path) != 0 || !proof.CheckGrow(g, sum(), sum()) {
			t.Errorf("P8.2: Grow of none: %v", g)
		}
		for _, from := range []int{1, 2, 4, -1, math.MaxInt, math.MinInt} {
			if g, why := proof.Grow(none, from); why != api.ErrArg || g.From != 0 || g.To != 0 || len(g.Path) != 0 {
				t.Errorf("P8.2: Grow(%d of none): %v, %v", from, g, why)
			}
		}
	}
}

// P8.2, R1, R4: Grow asks no form of leaves: the path has the roots of parts of whatever they are, nil leaves as empty ones.
func TestGrowOfOddLeaves(t *testing.T) {
	for n := range 20 {
		var l [][]byte
		for i := range n {
			l = append(l, noise(i*i*7%100))
		}
		empty := slices.Clone(l)
		if n > 0 {
			l[n/2], empty[n/2] = nil, []byte{}
		}
		for from := range n + 1 {
			name := fmt.Sprintf("P8.2: Grow(%d of %d leaves of unlike lengths)", from, n)
			want := rootsOf(l, wantGrowth(from, n))
			are(t, name, grown(t, l, from).Path, want)
			are(t, name+", one of them empty", grown(t, empty, from).Path, want)
		}
	}
}

// P8.2, P8.4: trees as great as MaxProof hashes are enough for, and greater ones: then some paths are too long to be right.
func TestGrowOfVeryMany(t *testing.T) {
	l := leafHashes(1<<api.MaxProof + 1)
	most := l[:1<<api.MaxProof]
	now, all := tree.Root(most), tree.Root(l)
	for _, from := range []int{1, 1 << 10, len(most) / 2, len(most)/2 + 2, len(most) - 2} {
		g := grown(t, most, from)
		if len(g.Path) > api.MaxProof || !proof.CheckGrow(g, tree.Root(l[:from]), now) {
			t.Errorf("P8.4: Grow(%d of %d): %d hashes, or it does not check", from, len(most), len(g.Path))
		}
	}
	g := grown(t, l, len(most))
	are(t, "P8.2: Grow of very many by one", g.Path, l[len(most):])
	if !proof.CheckGrow(g, now, all) {
		t.Error("P8.4: Grow of very many by one does not check")
	}
	for from, to := range map[int][][]byte{1: l, len(most) - 1: most} {
		g, old := grown(t, to, from), tree.Root(l[:from])
		if len(g.Path) != api.MaxProof+1 || proof.Right(g.Path) || proof.CheckGrow(g, old, tree.Root(to)) {
			t.Errorf("P8.3: Grow(%d of %d): %d hashes, or it checks", from, len(to), len(g.Path))
		}
	}
}

// P8.2, P8.4: growths one behind the other, from each size to the next and by strides: each root that one leads to is the next one's old.
func TestGrowthsInARow(t *testing.T) {
	l := leafHashes(api.MaxLeaves)
	for _, stride := range []int{1, 2, 3, 7, api.MaxBatch, 64} {
		old := sum()
		for from := 0; from+stride <= len(l); from += stride {
			to := from + stride
			g := grown(t, l[:to], from)
			now := wantRoot(l[:to])
			if from > 0 {
				first, all, ok := proof.Leads(g, old)
				if !ok {
					t.Fatalf("P8.4: from %d to %d: Leads is false", from, to)
				}
				is(t, fmt.Sprintf("P8.3: from %d to %d: the first", from, to), first, old)
				is(t, fmt.Sprintf("P8.3: from %d to %d: all", from, to), all, now)
				now = all
			}
			if !proof.CheckGrow(g, old, now) || proof.CheckGrow(g, turned(old), now) {
				t.Errorf("P8.4: from %d to %d: CheckGrow", from, to)
			}
			old = now
		}
	}
}
