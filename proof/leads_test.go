package proof_test

import (
	"bytes"
	"fmt"
	"math"
	"math/rand"
	"slices"
	"testing"

	"broadsheet/api"
	"broadsheet/proof"
)

// holdLeads holds Leads and CheckGrow against what the chapter says of them.
func holdLeads(t *testing.T, name string, g api.Growth, old []byte) {
	t.Helper()
	wantFirst, wantAll, wantOK := wantLeads(g, old)
	first, all, ok := proof.Leads(g, old)
	if ok != wantOK || !bytes.Equal(first, wantFirst) || !bytes.Equal(all, wantAll) {
		t.Errorf("P8.3: %s: Leads: %x, %x, %v, want %x, %x, %v", name, first, all, ok, wantFirst, wantAll, wantOK)
	}
	for _, now := range [][]byte{wantAll, wantFirst, old, turned(sum(wantAll)), sum(), nil} {
		if got := proof.CheckGrow(g, old, now); got != wantCheckGrow(g, old, now) {
			t.Errorf("P8.3: %s: CheckGrow of %x and %x: %v", name, old, now, got)
		}
	}
}

// leadsRefused asks that Leads tells nothing, and that CheckGrow is false.
func leadsRefused(t *testing.T, name string, g api.Growth, old, now []byte) {
	t.Helper()
	if first, all, ok := proof.Leads(g, old); ok || len(first) != 0 || len(all) != 0 {
		t.Errorf("P8.3: %s: Leads(from %d, to %d, %d hashes): %x, %x, %v", name, g.From, g.To, len(g.Path), first, all, ok)
	}
	for _, roots := range [][2][]byte{{old, now}, {nil, nil}, {{}, {}}, {old, nil}, {nil, now}} {
		if proof.CheckGrow(g, roots[0], roots[1]) {
			t.Errorf("P8.3: %s: CheckGrow(from %d, to %d, %d hashes) of %x and %x: true", name, g.From, g.To, len(g.Path), roots[0], roots[1])
		}
	}
}

// P8.3: what Leads tells of few hashes, spelt out: old stands where the path leaves it out, and nowhere else.
func TestLeadsOfFew(t *testing.T) {
	old, h := leafHashes(1)[0], hashes(4)
	for _, c := range []struct {
		from, to   int
		path       [][]byte
		first, all []byte
	}{
		{1, 2, h[:1], old, wantNode(old, h[0])},
		{1, 3, h[:2], old, wantNode(wantNode(old, h[0]), h[1])},
		{2, 3, h[:1], old, wantNode(old, h[0])},
		{1, 4, h[:2], old, wantNode(wantNode(old, h[0]), h[1])},
		{2, 4, h[:1], old, wantNode(old, h[0])},
		{3, 4, h[:3], wantNode(h[2], h[0]), wantNode(h[2], wantNode(h[0], h[1]))},
		{3, 5, h[:4], wantNode(h[2], h[0]), wantNode(wantNode(h[2], wantNode(h[0], h[1])), h[3])},
		{4, 5, h[:1], old, wantNode(old, h[0])},
		{5, 7, h[:4], wantNode(h[3], h[0]), wantNode(h[3], wantNode(wantNode(h[0], h[1]), h[2]))},
		{6, 7, h[:3], wantNode(h[2], h[0]), wantNode(h[2], wantNode(h[0], h[1]))},
	} {
		g := api.Growth{From: c.from, To: c.to, Path: c.path}
		first, all, ok := proof.Leads(g, old)
		if !ok {
			t.Errorf("P8.3: Leads(%d to %d): refused", c.from, c.to)
		}
		is(t, fmt.Sprintf("P8.3: Leads(%d to %d), the first", c.from, c.to), first, c.first)
		is(t, fmt.Sprintf("P8.3: Leads(%d to %d), all", c.from, c.to), all, c.all)
		if got := proof.CheckGrow(g, old, c.all); got != bytes.Equal(old, c.first) {
			t.Errorf("P8.3: CheckGrow(%d to %d) of another old: %v", c.from, c.to, got)
		}
		if !proof.CheckGrow(g, c.first, c.all) {
			t.Errorf("P8.3: CheckGrow(%d to %d): false", c.from, c.to)
		}
	}
}

// P8.3: From 0, below 0, as great as To, above To, at the ends of ints: Leads tells nothing, with paths of each count.
func TestLeadsOfNoNumbers(t *testing.T) {
	odd := []int{math.MinInt, math.MinInt + 1, -1 << 32, -3, -2, -1, 0, 1, 2, 3, 4, 5, 1 << 16, 1<<16 + 1, 1 << 32, 1 << 62, 1<<62 + 1, math.MaxInt - 1, math.MaxInt}
	old, h := leafHashes(1)[0], hashes(70)
	for _, from := range odd {
		for _, to := range odd {
			for n := range len(h) + 1 {
				g := api.Growth{From: from, To: to, Path: h[:n]}
				holdLeads(t, fmt.Sprintf("from %d, to %d, %d hashes", from, to, n), g, old)
				if _, _, ok := proof.Leads(g, old); ok && (from <= 0 || from >= to) {
					t.Errorf("P8.3: Leads(from %d, to %d): true", from, to)
				}
			}
		}
	}
}

// P8.3: a path with one hash too few or too many, wherever it went or came, none, and more than MaxProof.
func TestLeadsOfWrongCounts(t *testing.T) {
	l, other := leafHashes(34), hashes(40)
	for n := range len(l) + 1 {
		now := wantRoot(l[:n])
		for from := range n + 1 {
			path, old := grown(t, l[:n], from).Path, wantRoot(l[:from])
			for at := range path {
				short := slices.Delete(slices.Clone(path), at, at+1)
				leadsRefused(t, "one too few", api.Growth{From: from, To: n, Path: short}, old, now)
			}
			for at := range len(path) + 1 {
				long := slices.Insert(slices.Clone(path), at, other[0])
				leadsRefused(t, "one too many", api.Growth{From: from, To: n, Path: long}, old, now)
			}
			leadsRefused(t, "old ahead of it", api.Growth{From: from, To: n, Path: slices.Concat([][]byte{old}, path)}, old, now)
			leadsRefused(t, "now behind it", api.Growth{From: from, To: n, Path: slices.Concat(path, [][]byte{now})}, old, now)
			leadsRefused(t, "more than MaxProof", api.Growth{From: from, To: n, Path: slices.Concat(path, other)}, old, now)
			if len(path) > 0 {
				leadsRefused(t, "none", api.Growth{From: from, To: n}, old, now)
				leadsRefused(t, "an empty one", api.Growth{From: from, To: n, Path: path[:0]}, old, now)
			}
		}
	}
}

// P8.3: a hash of the path that is none in each place, and an old or a now that is none.
func TestLeadsOfNoHashes(t *testing.T) {
	l := leafHashes(17)
	for name, wrong := range wrongLengths() {
		for _, n := range []int{2, 3, 4, 7, 8, 17} {
			now := wantRoot(l[:n])
			for from := 1; from < n; from++ {
				g, old := grown(t, l[:n], from), wantRoot(l[:from])
				leadsRefused(t, "old "+name, g, wrong, now)
				leadsRefused(t, "old and now "+name, g, wrong, wrong)
				if proof.CheckGrow(g, old, wrong) {
					t.Errorf("P8.3: CheckGrow(%d to %d), now %s: true", from, n, name)
				}
				for at := range g.Path {
					changed := slices.Clone(g.Path)
					changed[at] = wrong
					leadsRefused(t, fmt.Sprintf("number %d %s", at, name), api.Growth{From: from, To: n, Path: changed}, old, now)
				}
			}
		}
	}
}

// P8.3: a hash of the path, old or now that was turned is told, wherever the bit is.
func TestCheckGrowTellsHashes(t *testing.T) {
	l := leafHashes(20)
	for n := 2; n <= len(l); n++ {
		now := wantRoot(l[:n])
		for from := 1; from < n; from++ {
			g, old := grown(t, l[:n], from), wantRoot(l[:from])
			name := fmt.Sprintf("%d to %d", from, n)
			holdLeads(t, name+", old turned", g, turned(old))
			for at := range old {
				badOld, badNow := bytes.Clone(old), bytes.Clone(now)
				badOld[at] ^= 1
				badNow[at] ^= 0x80
				if proof.CheckGrow(g, badOld, now) || proof.CheckGrow(g, old, badNow) || proof.CheckGrow(g, badOld, badNow) {
					t.Errorf("P8.3: CheckGrow(%s), byte %d of old or now turned: true", name, at)
				}
			}
			if proof.CheckGrow(g, now, old) || proof.CheckGrow(g, old, old) || proof.CheckGrow(g, now, now) {
				t.Errorf("P8.3: CheckGrow(%s), old and now swapped, or one of them twice: true", name)
			}
			for at := range g.Path {
				bad := api.Growth{From: from, To: n, Path: slices.Clone(g.Path)}
				bad.Path[at] = turned(g.Path[at])
				holdLeads(t, name+", a hash turned", bad, old)
				if proof.CheckGrow(bad, old, now) {
					t.Errorf("P8.3: CheckGrow(%s), hash %d turned: true", name, at)
				}
			}
		}
	}
}

// P8.3: with other numbers Leads tells what the path leads to by them, and CheckGrow is true just where that is old and now.
func TestLeadsOfOtherNumbers(t *testing.T) {
	l := leafHashes(12)
	for n := 2; n <= len(l); n++ {
		now := wantRoot(l[:n])
		for m := 1; m < n; m++ {
			path, old := grown(t, l[:n], m).Path, wantRoot(l[:m])
			for from := -2; from < n+3; from++ {
				for to := -2; to < n+5; to++ {
					g := api.Growth{From: from, To: to, Path: path}
					name := fmt.Sprintf("the path of %d to %d as that of %d to %d", m, n, from, to)
					holdLeads(t, name, g, old)
					if proof.CheckGrow(g, old, now) != wantCheckGrow(g, old, now) {
						t.Errorf("P8.3: %s: CheckGrow", name)
					}
				}
			}
		}
	}
}

// P8.3: CheckGrow where From is To: old is now, both are hashes, and there is no path.
func TestCheckGrowOfTheSame(t *testing.T) {
	h := hashes(3)
	for _, n := range []int{0, 1, 2, 5, 8, 1 << 16, 1 << 62, math.MaxInt} {
		for _, none := range [][][]byte{nil, {}, h[:0]} {
			g := api.Growth{From: n, To: n, Path: none}
			if !proof.CheckGrow(g, h[0], bytes.Clone(h[0])) || !proof.CheckGrow(g, sum(), sum()) {
				t.Errorf("P8.3: CheckGrow from %d to as many, old is now: false", n)
			}
			if proof.CheckGrow(g, h[0], h[1]) || proof.CheckGrow(g, sum(), h[0]) || proof.CheckGrow(g, h[0], turned(h[0])) {
				t.Errorf("P8.3: CheckGrow from %d to as many, old is not now: true", n)
			}
			for name, wrong := range wrongLengths() {
				if proof.CheckGrow(g, wrong, wrong) || proof.CheckGrow(g, wrong, h[0]) || proof.CheckGrow(g, h[0], wrong) {
					t.Errorf("P8.3: CheckGrow from %d to as many, old or now %s: true", n, name)
				}
			}
		}
		for _, path := range [][][]byte{h[:1], h, hashes(17), {nil}, {h[0][:31]}} {
			if proof.CheckGrow(api.Growth{From: n, To: n, Path: path}, h[0], h[0]) {
				t.Errorf("P8.3: CheckGrow from %d to as many with %d hashes: true", n, len(path))
			}
		}
		leadsRefused(t, "as many", api.Growth{From: -n - 1, To: -n - 1}, h[0], h[0])
	}
}

// P8.3: CheckGrow where From is 0 and To above: old is the sum of nothing, now is any hash, and there is no path.
func TestCheckGrowFromNone(t *testing.T) {
	h := hashes(3)
	for _, n := range []int{1, 2, 5, 8, 1 << 16, 1 << 62, math.MaxInt} {
		for _, none := range [][][]byte{nil, {}, h[:0]} {
			g := api.Growth{To: n, Path: none}
			if !proof.CheckGrow(g, sum(), h[0]) || !proof.CheckGrow(g, sum(), sum()) {
				t.Errorf("P8.3: CheckGrow from 0 to %d: false", n)
			}
			if proof.CheckGrow(g, h[0], h[0]) || proof.CheckGrow(g, h[0], sum()) || proof.CheckGrow(g, turned(sum()), h[0]) {
				t.Errorf("P8.3: CheckGrow from 0 to %d, another old: true", n)
			}
			for name, wrong := range wrongLengths() {
				if proof.CheckGrow(g, sum(), wrong) || proof.CheckGrow(g, wrong, h[0]) || proof.CheckGrow(g, wrong, wrong) {
					t.Errorf("P8.3: CheckGrow from 0 to %d, old or now %s: true", n, name)
				}
			}
		}
		for _, path := range [][][]byte{h[:1], h, hashes(17), {nil}, {h[0][:31]}} {
			if proof.CheckGrow(api.Growth{To: n, Path: path}, sum(), h[0]) {
				t.Errorf("P8.3: CheckGrow from 0 to %d with %d hashes: true", n, len(path))
			}
		}
	}
}

// P8.3: From below 0 or above To is false, whatever old and now are.
func TestCheckGrowOfNoNumbers(t *testing.T) {
	h := hashes(20)
	for _, c := range []part{{-1, -1}, {-1, 0}, {-1, 5}, {-5, -1}, {1, 0}, {5, 4}, {5, 0}, {5, -5}, {1, math.MinInt}, {0, -1}, {0, math.MinInt}, {math.MinInt, math.MinInt}, {math.MinInt, 0}, {math.MinInt, math.MaxInt}, {math.MaxInt, 0}, {math.MaxInt, math.MaxInt - 1}, {math.MaxInt, math.MinInt}} {
		for n := range len(h) {
			g := api.Growth{From: c.from, To: c.to, Path: h[:n]}
			leadsRefused(t, "no numbers", g, h[0], h[0])
			leadsRefused(t, "no numbers, from nothing", g, sum(), h[0])
			leadsRefused(t, "no numbers, of nothing", g, sum(), sum())
		}
	}
}

// P8.3: how many hashes are asked of sizes far above any list's: just so many lead on, and if they are more than MaxProof, none do.
func TestLeadsOfGreatSizes(t *testing.T) {
	h, old := hashes(70), leafHashes(1)[0]
	for _, to := range greatSizes() {
		for _, from := range places(to) {
			if from == 0 {
				continue
			}
			g := api.Growth{From: from, To: to}
			asked := wantGrowthCount(from, to)
			for n := range len(h) + 1 {
				g.Path = h[:n]
				if _, _, ok := proof.Leads(g, old); ok != (n == asked && n <= api.MaxProof) {
					t.Errorf("P8.3: Leads(%d to %d) with %d hashes: %v, %d are asked", from, to, n, ok, asked)
				}
			}
			g.Path = h[:asked]
			holdLeads(t, fmt.Sprintf("from %d, to %d", from, to), g, old)
			if asked > api.MaxProof {
				continue
			}
			first, all, _ := wantLeads(g, old)
			if !proof.CheckGrow(g, first, all) || proof.CheckGrow(g, turned(first), all) || proof.CheckGrow(g, first, turned(all)) {
				t.Errorf("P8.3: CheckGrow(%d to %d)", from, to)
			}
		}
	}
}

// P8.3: some of those counts, spelt out.
func TestLeadsOfGreatSizesSpeltOut(t *testing.T) {
	h, old := hashes(70), leafHashes(1)[0]
	for _, c := range []struct {
		from, to, asked int
	}{
		{1, 1 << 15, 15}, {1 << 14, 1 << 15, 1}, {1<<15 - 1, 1 << 15, 16},
		{1, 1 << 16, 16}, {1<<16 - 1, 1 << 16, 17}, {1<<16 - 2, 1 << 16, 16}, {1 << 15, 1 << 16, 1},
		{1, 1<<16 + 1, 17}, {1 << 16, 1<<16 + 1, 1}, {2, 1<<16 + 1, 16},
		{1 << 62, 1<<62 + 1, 1}, {1 << 62, math.MaxInt, 1}, {1<<62 + 1, 1<<62 + 2, 3}, {1<<62 + 2, 1<<62 + 3, 3},
		{1 << 61, 1 << 62, 1}, {1 << 46, 1 << 62, 16}, {1 << 45, 1 << 62, 17},
		{1, math.MaxInt, 63}, {math.MaxInt - 1, math.MaxInt, 63},
	} {
		for n := range len(h) + 1 {
			g := api.Growth{From: c.from, To: c.to, Path: h[:n]}
			if _, _, ok := proof.Leads(g, old); ok != (n == c.asked && n <= 16) {
				t.Errorf("P8.3: Leads(%d to %d) with %d hashes: %v, %d are asked", c.from, c.to, n, ok, c.asked)
			}
		}
	}
	g := api.Growth{From: 1 << 62, To: math.MaxInt, Path: h[:1]}
	if !proof.CheckGrow(g, old, wantNode(old, h[0])) || proof.CheckGrow(g, old, wantNode(h[0], old)) {
		t.Error("P8.3: CheckGrow of a great tree")
	}
}

// P8.3, R1: growths that nobody made.
func TestLeadsOfAnything(t *testing.T) {
	r := rand.New(rand.NewSource(9))
	h, old := hashes(20), leafHashes(1)[0]
	for range 20000 {
		to := r.Int() >> r.Intn(63)
		g := api.Growth{From: r.Int() >> r.Intn(63), To: to, Path: h[:r.Intn(len(h))]}
		if to > 1 && r.Intn(4) > 0 {
			g.From = 1 + g.From%(to-1)
			g.Path = h[:min(len(h), max(0, wantGrowthCount(g.From, to)+r.Intn(5)/2-1))]
		}
		holdLeads(t, fmt.Sprintf("from %d, to %d, %d hashes", g.From, g.To, len(g.Path)), g, old)
	}
}
