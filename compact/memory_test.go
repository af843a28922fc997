package compact_test

import (
	"bytes"
	"fmt"
	"slices"
	"testing"

	"broadsheet/api"
	"broadsheet/compact"
)

// spoil writes over b and over the room behind it. What is spoilt several times does not come back.
func spoil(b []byte) {
	b = b[:cap(b)]
	for i := range b {
		b[i]++
	}
}

// spoilAll writes over each text of l, over its room, and over the list and its room.
func spoilAll(l [][]byte) {
	for _, b := range l {
		spoil(b)
	}
	l = l[:cap(l)]
	for i := range l {
		l[i] = noise(3)
	}
}

// roomy tells the texts of l, each with room behind it, in a list with room behind it.
func roomy(l [][]byte) [][]byte {
	list := make([][]byte, 0, len(l)+3)
	for _, b := range l {
		list = append(list, append(bytes.Clone(b), noise(50)...)[:len(b)])
	}
	behind := append(list, noise(7), noise(8), noise(9))
	return behind[:len(l)]
}

// reached is all that a list of texts reaches: the room behind each and behind the list too, and where each lies.
type reached struct {
	lists, texts [][]byte
}

func reach(l [][]byte) reached {
	var r reached
	r.lists = slices.Clone(l[:cap(l)])
	for _, b := range r.lists {
		r.texts = append(r.texts, bytes.Clone(b[:cap(b)]))
	}
	return r
}

// stays: is all as it was that l reached?
func (r reached) stays(l [][]byte) bool {
	for i, b := range l[:cap(l)] {
		was := r.lists[i]
		if len(b) != len(was) || cap(b) != cap(was) || !bytes.Equal(b[:cap(b)], r.texts[i]) || cap(b) > 0 && &b[:1][0] != &was[:1][0] {
			return false
		}
	}
	return cap(l) == len(r.lists)
}

// askAndSpoil writes over all that a range gives out.
func askAndSpoil(r *compact.Range) {
	spoil(r.Root())
	spoilAll(r.Nodes())
	r.Each(spoil)
	spoilAll(each(r))
}

// R2: a leaf that is handed in is not changed, in its length or behind it, whatever is appended and asked afterwards.
func TestLeavesStay(t *testing.T) {
	for n := range 40 {
		l := roomy(leafHashes(n))
		before := reach(l)
		r := compact.New()
		for _, leaf := range l {
			r.Append(leaf)
			askAndSpoil(r)
		}
		if !before.stays(l) {
			t.Errorf("R2: %d leaves: they or the room behind them changed", n)
		}
		tells(t, fmt.Sprintf("R2: %d leaves, all answers written over", n), r, leafHashes(n))
	}
}

// R2: a leaf may be changed once it is appended.
func TestLeavesAreNotKept(t *testing.T) {
	l := leafHashes(40)
	r := compact.New()
	for n, leaf := range roomy(l) {
		r.Append(leaf)
		spoil(leaf)
		tells(t, fmt.Sprintf("R2: %d leaves, each changed", n+1), r, l[:n+1])
	}
	same, memory := compact.New(), make([]byte, api.HashSize)
	for n, leaf := range l {
		copy(memory, leaf)
		same.Append(memory)
		tells(t, fmt.Sprintf("R2: %d leaves out of one memory", n+1), same, l[:n+1])
	}
}

// R2: nodes that are handed in, their list and the room behind them are not changed, whatever is appended and asked afterwards.
func TestNodesStay(t *testing.T) {
	more := leafHashes(60)
	for n := range 40 {
		nodes := roomy(grown(more[:n]).Nodes())
		before := reach(nodes)
		r := from(t, n, nodes)
		for at := n; at < n+20; at++ {
			askAndSpoil(r)
			r.Append(more[at])
		}
		if !before.stays(nodes) {
			t.Errorf("R2: From of %d leaves: its nodes, their list or the room behind them changed", n)
		}
		tells(t, fmt.Sprintf("R2: From of %d leaves, gone on", n), r, more[:n+20])
	}
}

// R2, R3: a From that is refused changes nothing of what it was handed.
func TestRefusedNodesStay(t *testing.T) {
	wrong := hashes(4)
	wrong[2] = noise(31)
	for _, nodes := range [][][]byte{roomy(hashes(4)), roomy(wrong), roomy(nil)} {
		before := reach(nodes)
		for _, size := range []int{-1, 1, 3, 15, 31} {
			if r, why := compact.From(size, nodes); why == api.OK {
				askAndSpoil(r)
			}
		}
		if !before.stays(nodes) {
			t.Errorf("R2: From of %d nodes: they, their list or the room behind them changed", len(nodes))
		}
	}
}

// R2: nodes and their list may be changed once a range is made of them.
func TestNodesAreNotKept(t *testing.T) {
	l := leafHashes(60)
	for n := range 40 {
		nodes := roomy(grown(l[:n]).Nodes())
		r := from(t, n, nodes)
		spoilAll(nodes)
		tells(t, fmt.Sprintf("R2: From of %d leaves, its nodes changed", n), r, l[:n])
		for at := n; at < n+20; at++ {
			r.Append(l[at])
		}
		tells(t, fmt.Sprintf("R2: From of %d leaves, its nodes changed, gone on", n), r, l[:n+20])
	}
}

// R2: who asked may write into answers, and into the room behind them: neither the range nor a later answer changes, and it goes on as if nothing were.
func TestAnswersAreNewMemory(t *testing.T) {
	l := leafHashes(70)
	r, back := compact.New(), compact.New()
	for n, leaf := range l {
		for range 2 {
			askAndSpoil(r)
			askAndSpoil(back)
		}
		tells(t, fmt.Sprintf("R2: %d leaves, all answers written over", n), r, l[:n])
		tells(t, fmt.Sprintf("R2: From of %d leaves, all answers written over", n), back, l[:n])
		r.Append(leaf)
		back = from(t, n+1, r.Nodes())
	}
}

// R2: an answer stays as it is, whatever is appended and asked afterwards.
func TestAnswersStay(t *testing.T) {
	l := leafHashes(70)
	for n := range 40 {
		r := grown(l[:n])
		root, nodes, handed := r.Root(), r.Nodes(), each(r)
		for at := n; at < n+30; at++ {
			r.Append(l[at])
			askAndSpoil(r)
		}
		want := grown(l[:n])
		is(t, fmt.Sprintf("R2: an earlier Root of %d", n), root, want.Root())
		are(t, fmt.Sprintf("R2: earlier Nodes of %d", n), nodes, want.Nodes())
		are(t, fmt.Sprintf("R2: what Each of %d handed out", n), handed, want.Nodes())
	}
}

// R2: no two nodes of one answer share memory, their room included.
func TestNodesOfOneAnswerAreApart(t *testing.T) {
	for n := range 64 {
		r := grown(leafHashes(n))
		for name, ask := range map[string]func() [][]byte{"Nodes": r.Nodes, "Each": func() [][]byte { return each(r) }} {
			for at := range len(ask()) {
				nodes := ask()
				spoil(nodes[at])
				_ = append(nodes[at], noise(40)...)
				nodes[at] = r.Nodes()[at]
				are(t, fmt.Sprintf("R2: %s of %d, number %d written over", name, n, at), nodes, r.Nodes())
			}
		}
	}
}

// R2: two ranges, one of them from the other's nodes, do not share memory: each grows by itself.
func TestRangesShareNoMemory(t *testing.T) {
	l, other := leafHashes(80), slices.Clone(leafHashes(80))
	slices.Reverse(other)
	for n := range 40 {
		r := grown(l[:n])
		nodes := r.Nodes()
		first, second := from(t, n, nodes), from(t, n, nodes)
		one, two, three := slices.Clone(l[:n]), slices.Clone(l[:n]), slices.Clone(l[:n])
		for at := range 20 {
			r.Append(l[n+at])
			one = append(one, l[n+at])
			first.Append(other[at])
			two = append(two, other[at])
			if at%2 == 0 {
				second.Append(nil)
				three = append(three, nil)
			}
			askAndSpoil(second)
		}
		tells(t, fmt.Sprintf("R2: three ranges of %d leaves, the first", n), r, one)
		tells(t, fmt.Sprintf("R2: three ranges of %d leaves, the second", n), first, two)
		tells(t, fmt.Sprintf("R2: three ranges of %d leaves, the third", n), second, three)
	}
}
