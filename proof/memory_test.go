package proof_test

import (
	"bytes"
	"fmt"
	"slices"
	"testing"

	"broadsheet/api"
	"broadsheet/proof"
)

// spoil writes over b and over the room behind it. What is spoilt several times does not come back.
func spoil(b []byte) {
	b = b[:cap(b)]
	for i := range b {
		b[i]++
	}
}

// spoilAll writes over each text of l, over its room, and over the list and its room.
func spoilAll(l [][]byte) {
	for _, b := range l {
		spoil(b)
	}
	l = l[:cap(l)]
	for i := range l {
		l[i] = noise(3)
	}
}

// roomyText tells b with room behind it.
func roomyText(b []byte) []byte { return append(bytes.Clone(b), noise(50)...)[:len(b)] }

// roomy tells the texts of l, each with room behind it, in a list with room behind it.
func roomy(l [][]byte) [][]byte {
	list := make([][]byte, 0, len(l)+3)
	for _, b := range l {
		list = append(list, roomyText(b))
	}
	behind := append(list, noise(7), noise(8), noise(9))
	return behind[:len(l)]
}

// reached is all that a list of texts reaches: the room behind each and behind the list too, and where each lies.
type reached struct {
	lists, texts [][]byte
}

func reach(l [][]byte) reached {
	var r reached
	r.lists = slices.Clone(l[:cap(l)])
	for _, b := range r.lists {
		r.texts = append(r.texts, bytes.Clone(b[:cap(b)]))
	}
	return r
}

// stays: is all as it was that l reached?
func (r reached) stays(l [][]byte) bool {
	for i, b := range l[:cap(l)] {
		was := r.lists[i]
		if len(b) != len(was) || cap(b) != cap(was) || !bytes.Equal(b[:cap(b)], r.texts[i]) || cap(b) > 0 && &b[:1][0] != &was[:1][0] {
			return false
		}
	}
	return cap(l) == len(r.lists)
}

// R2: leaves that are handed in, their list and the room behind them are not changed, nor when what was told is written over.
func TestLeavesStay(t *testing.T) {
	for n := range 24 {
		l := roomy(leafHashes(n))
		before := reach(l)
		for range 2 {
			for at := -1; at <= n+1; at++ {
				p, _ := proof.Include(l, at)
				g, _ := proof.Grow(l, at)
				spoilAll(p.Path)
				spoilAll(g.Path)
				if !before.stays(l) {
					t.Fatalf("R2: Include or Grow, %d of %d leaves: they, their list or the room behind them changed", at, n)
				}
			}
		}
	}
}

// R2: leaves may be changed afterwards: no path hangs on them any more.
func TestLeavesAreNotKept(t *testing.T) {
	l := leafHashes(24)
	for n := 1; n <= len(l); n++ {
		for at := range n {
			handed := roomy(l[:n])
			p, g := included(t, handed, at), grown(t, handed, at)
			spoilAll(handed)
			are(t, fmt.Sprintf("R2: Include(%d of %d), the leaves changed", at, n), p.Path, rootsOf(l[:n], wantAudit(at, n)))
			are(t, fmt.Sprintf("R2: Grow(%d of %d), the leaves changed", at, n), g.Path, rootsOf(l[:n], wantGrowth(at, n)))
		}
	}
}

// R2, R4: what was told may be changed: a later answer is as if nothing were.
func TestPathsAreNewMemory(t *testing.T) {
	l := leafHashes(24)
	for n := 1; n <= len(l); n++ {
		for at := range n {
			p, g := included(t, l[:n], at), grown(t, l[:n], at)
			kept, keptGrowth := included(t, l[:n], at), grown(t, l[:n], at)
			spoilAll(p.Path)
			spoilAll(g.Path)
			_ = append(p.Path, noise(1), noise(2))
			_ = append(g.Path, noise(1), noise(2))
			want, wantGrown := rootsOf(leafHashes(n), wantAudit(at, n)), rootsOf(leafHashes(n), wantGrowth(at, n))
			are(t, fmt.Sprintf("R2: Include(%d of %d), another answer changed", at, n), kept.Path, want)
			are(t, fmt.Sprintf("R2: Grow(%d of %d), another answer changed", at, n), keptGrowth.Path, wantGrown)
			are(t, fmt.Sprintf("R2: Include(%d of %d) again", at, n), included(t, l[:n], at).Path, want)
			are(t, fmt.Sprintf("R2: Grow(%d of %d) again", at, n), grown(t, l[:n], at).Path, wantGrown)
		}
	}
}

// R2: no two hashes of one path share memory, their room included.
func TestHashesOfOnePathAreApart(t *testing.T) {
	l := leafHashes(24)
	for n := 1; n <= len(l); n++ {
		for at := range n {
			for name, ask := range map[string]func() [][]byte{
				"Include": func() [][]byte { return included(t, l[:n], at).Path },
				"Grow":    func() [][]byte { return grown(t, l[:n], at).Path },
			} {
				for i := range ask() {
					path, want := ask(), ask()
					_ = append(path[i], noise(40)...)
					spoil(path[i])
					path[i] = want[i]
					are(t, fmt.Sprintf("R2: %s(%d of %d), hash %d written over", name, at, n, i), path, want)
				}
			}
		}
	}
}

// R2: leaves of one memory, all of them the same list: each hash of a path is still memory of its own.
func TestHashesOfLeavesThatAreOne(t *testing.T) {
	leaf := leafHashes(1)[0]
	for n := 2; n < 10; n++ {
		same := slices.Repeat([][]byte{leaf}, n)
		for at := range n {
			p, g := included(t, same, at), grown(t, same, at)
			spoilAll(p.Path)
			spoilAll(g.Path)
			is(t, fmt.Sprintf("R2: %d times one leaf, paths written over", n), leaf, leafHashes(1)[0])
		}
	}
}

// R2: what Lead and Check are handed is not changed, in any length or behind it, taken or refused, nor when what was told is written over.
func TestProofsStay(t *testing.T) {
	l := leafHashes(12)
	for n := 1; n <= len(l); n++ {
		for i := range n {
			path := roomy(included(t, l[:n], i).Path)
			texts := [][]byte{roomyText(l[i]), roomyText(wantRoot(l[:n]))}
			before, beforeTexts := reach(path), reach(texts)
			for index := -1; index <= n; index++ {
				for size := range n + 3 {
					p := api.Proof{Index: index, Size: size, Path: path}
					told, _ := proof.Lead(p, texts[0])
					_ = append(told, noise(40)...)
					spoil(told)
					proof.Check(p, texts[0], texts[1])
					proof.Right(path)
				}
			}
			if !before.stays(path) || !beforeTexts.stays(texts) {
				t.Fatalf("R2: Lead or Check, %d of %d: the path, its list, the leaf, the root or the room behind them changed", i, n)
			}
		}
	}
}

// R2: what Leads and CheckGrow are handed is not changed, in any length or behind it, taken or refused, nor when what was told is written over.
func TestGrowthsStay(t *testing.T) {
	l := leafHashes(12)
	for n := range len(l) + 1 {
		for m := range n + 1 {
			path := roomy(grown(t, l[:n], m).Path)
			texts := [][]byte{roomyText(wantRoot(l[:m])), roomyText(wantRoot(l[:n]))}
			before, beforeTexts := reach(path), reach(texts)
			for from := -1; from <= n+1; from++ {
				for to := -1; to <= n+2; to++ {
					g := api.Growth{From: from, To: to, Path: path}
					first, all, _ := proof.Leads(g, texts[0])
					_, _ = append(first, noise(40)...), append(all, noise(40)...)
					spoil(first)
					spoil(all)
					proof.CheckGrow(g, texts[0], texts[1])
				}
			}
			if !before.stays(path) || !beforeTexts.stays(texts) {
				t.Fatalf("R2: Leads or CheckGrow, %d to %d: the path, its list, old, now or the room behind them changed", m, n)
			}
		}
	}
}

// R2: paths, leaves and old may be changed afterwards, and so may what was told: roots that were told stay, both by themselves, and later answers are the same.
func TestRootsAreNewMemory(t *testing.T) {
	l := leafHashes(12)
	for n := 1; n <= len(l); n++ {
		root := wantRoot(l[:n])
		for i := range n {
			path, leaf := roomy(included(t, l[:n], i).Path), roomyText(l[i])
			p := api.Proof{Index: i, Size: n, Path: path}
			kept, _ := proof.Lead(p, leaf)
			other, _ := proof.Lead(p, leaf)
			spoil(other)
			again, _ := proof.Lead(p, leaf)
			is(t, fmt.Sprintf("R2: Lead(%d of %d) again", i, n), again, root)
			spoilAll(path)
			spoil(leaf)
			is(t, fmt.Sprintf("R2: Lead(%d of %d), all else changed", i, n), kept, root)
		}
		for from := 1; from < n; from++ {
			name := fmt.Sprintf("R2: Leads(%d to %d)", from, n)
			path, old := roomy(grown(t, l[:n], from).Path), roomyText(wantRoot(l[:from]))
			g := api.Growth{From: from, To: n, Path: path}
			first, all, _ := proof.Leads(g, old)
			otherFirst, otherAll, _ := proof.Leads(g, old)
			spoil(otherFirst)
			is(t, name+", the first written over: all", otherAll, root)
			spoil(otherAll)
			otherFirst, otherAll, _ = proof.Leads(g, old)
			spoil(otherAll)
			is(t, name+", all written over: the first", otherFirst, wantRoot(l[:from]))
			spoilAll(path)
			spoil(old)
			is(t, name+", all else changed: the first", first, wantRoot(l[:from]))
			is(t, name+", all else changed: all", all, root)
		}
	}
}

// R2: the lists that are handed in may be one memory: a leaf that is a hash of the path and the root too, an old that is now.
func TestOneMemoryForAll(t *testing.T) {
	h := hashes(1)[0]
	for n := range 4 {
		path := slices.Repeat([][]byte{h}, n)
		holdLead(t, "one memory", api.Proof{Index: 0, Size: 1 << n, Path: path}, h)
		holdLeads(t, "one memory", api.Growth{From: 1, To: 1 << n, Path: path}, h)
		told, ok := proof.Lead(api.Proof{Index: 0, Size: 1 << n, Path: path}, h)
		if ok {
			spoil(told)
		}
		if first, all, ok := proof.Leads(api.Growth{From: 1, To: 1 << n, Path: path}, h); ok {
			spoil(first)
			spoil(all)
		}
		is(t, "R2: one memory for all, answers written over", h, hashes(1)[0])
	}
	if !proof.CheckGrow(api.Growth{From: 3, To: 3}, h, h) {
		t.Error("P8.3: CheckGrow of one memory as old and now: false")
	}
}
