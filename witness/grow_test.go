package witness_test

import (
	"bytes"
	"fmt"
	"slices"
	"testing"

	"broadsheet/api"
	"broadsheet/witness"
)

// keyless tells a witness that has the checkpoint of that size, and no key left: what it takes, it answers by ErrUsed, and does not sign, which is slow.
func keyless(t *testing.T, name string, f *face, size int) *witness.Witness {
	t.Helper()
	text := ""
	if size > 0 {
		text = f.lie(size)
	}
	return opened(t, name, kept(t, text), kept(t, used(16)), 0, f.at(size), 16)
}

// P18.2: the right growth from each size to each larger one up to 40, and between those at, below and above powers of two.
func TestGrowthsThatAreRight(t *testing.T) {
	sizes := []int{63, 64, 65, 100, 127, 128, 129, 200, 255, 256}
	for n := range 41 {
		sizes = append(sizes, n)
	}
	slices.Sort(sizes)
	for i, from := range sizes {
		for _, to := range sizes[i+1:] {
			w := keyless(t, "P18.2: right growths", plain, from)
			cosignsNot(t, "P18.2: right growths", w, plain.signed(to), plain.grow(from, to), api.ErrUsed)
			stands(t, fmt.Sprintf("P18.2: from %d to %d", from, to), w, 0, plain.at(to), 16)
		}
	}
}

// P18.2: the same, cosigned, from none to the first one and on, in steps of one and of many.
func TestGrowthsThatAreCosigned(t *testing.T) {
	for _, sizes := range [][]int{{1}, {2}, {7}, {255}, {256}, {1, 2, 3, 4, 5, 6, 7, 8, 9, 10, 11, 12, 13, 14, 15, 16}, {2, 4, 8, 16, 32, 64, 128, 256}, {3, 5, 9, 17, 33, 65, 129}, {1, 3, 7, 15, 31, 63, 127, 255, 256}, {0, 1, 256}, {10, 13, 77, 100, 131, 250}} {
		w, d, k := begun(t, "P18.2: a row of growths")
		from := 0
		for key, to := range sizes {
			name := fmt.Sprintf("P18.2: from %d to %d", from, to)
			cosigns(t, name, w, plain.signed(to), plain.grow(from, to), key)
			stands(t, name, w, 0, plain.at(to), key+1)
			from = to
		}
		text := plain.lie(slices.DeleteFunc(slices.Clone(sizes), func(n int) bool { return n == 0 })...)
		tells(t, "P18.2: a row of growths", d, text, len(text), false)
		tells(t, "P18.2: a row of growths", k, used(len(sizes)), keySize*len(sizes), false)
	}
}

// wrongGrowths tells growths that do not lead from the face's from leaves to its first to: 0 < from < to.
func wrongGrowths(f *face, from, to int) []api.Growth {
	right := f.grow(from, to)
	all := []api.Growth{{}, {From: from, To: to}, {From: 0, To: to}, {From: to, To: to}, {From: from, To: from}, f.grow(from, from), f.grow(0, to), alien.grow(from, to)}
	for _, by := range []int{-1, 1, 2, 1 << 32, -1 << 32, least, greatest} {
		all = append(all, api.Growth{From: from + by, To: to, Path: right.Path}, api.Growth{From: from, To: to + by, Path: right.Path}, api.Growth{From: from + by, To: to + by, Path: right.Path})
	}
	for other := 1; other <= to; other++ {
		if other != from {
			all = append(all, f.grow(other, to), api.Growth{From: from, To: to, Path: f.grow(other, to).Path}, api.Growth{From: other, To: to, Path: right.Path})
		}
	}
	for other := from; other <= to+3; other++ {
		if other != to {
			all = append(all, f.grow(from, other), api.Growth{From: from, To: other, Path: right.Path}, api.Growth{From: from, To: to, Path: f.grow(from, other).Path})
		}
	}
	return slices.DeleteFunc(append(all, wrongPaths(right)...), func(g api.Growth) bool { return sameGrowth(g, right) })
}

// sameGrowth: are they the same in all?
func sameGrowth(a, b api.Growth) bool {
	return a.From == b.From && a.To == b.To && slices.EqualFunc(a.Path, b.Path, bytes.Equal)
}

// wrongPaths tells growths of which a hash is another one, lacks, or is there once more.
func wrongPaths(right api.Growth) []api.Growth {
	var all []api.Growth
	add := func(path [][]byte) { all = append(all, api.Growth{From: right.From, To: right.To, Path: path}) }
	for i, hash := range right.Path {
		for bit := range 256 {
			path := copyOfEach(right.Path)
			path[i][bit/8] ^= 1 << (bit % 8)
			add(path)
		}
		for _, other := range [][]byte{nil, {}, hash[:31], append(bytes.Clone(hash), 0), make([]byte, 32)} {
			path := slices.Clone(right.Path)
			path[i] = other
			add(path)
		}
		add(slices.Delete(slices.Clone(right.Path), i, i+1))
		add(slices.Insert(slices.Clone(right.Path), i, hash))
		add(slices.Insert(slices.Clone(right.Path), i, make([]byte, 32)))
		path := slices.Clone(right.Path)
		path[i], path[len(path)-1-i] = path[len(path)-1-i], path[i]
		add(path)
	}
	add(append(slices.Clone(right.Path), make([]byte, 32)))
	add(append(slices.Clone(right.Path), nil))
	add(slices.Repeat(right.Path, 2))
	add(make([][]byte, 17))
	return all
}

// takesNone holds that each of these growths is ErrProof beside s, once and again, that nothing of the witness and of its disks changes, and that the right one is taken behind them.
func takesNone(t *testing.T, name string, from int, s api.Signed, wrong []api.Growth, right api.Growth) {
	t.Helper()
	w, d, k := onto(t, name, from, false)
	for i, g := range wrong {
		cosignsNot(t, fmt.Sprintf("%s, growth %d", name, i), w, s, g, api.ErrProof)
	}
	untouched(t, name, w, d, k, from, false)
	d.Crash(0)
	k.Crash(0)
	w = opened(t, name+", behind a crash", d, k, 2, plain.at(from), 3)
	cosignsNot(t, name+", behind a crash", w, s, wrong[0], api.ErrProof)
	cosigns(t, name+", the right growth", w, s, right, 3)
}

// P18.2: growths of other sizes, with each bit of each hash turned, with hashes left out, put in or set elsewhere, of another log.
func TestWrongGrowths(t *testing.T) {
	for _, c := range [][2]int{{1, 2}, {1, 3}, {2, 3}, {2, 4}, {3, 4}, {3, 7}, {4, 7}, {4, 8}, {5, 8}, {6, 7}, {7, 8}, {8, 9}, {7, 20}, {31, 33}, {16, 17}} {
		name := fmt.Sprintf("P18.2: from %d to %d", c[0], c[1])
		takesNone(t, name, c[0], plain.signed(c[1]), wrongGrowths(plain, c[0], c[1]), plain.grow(c[0], c[1]))
	}
}

// P18.2: from no checkpoint to the first: just From 0, its size, and no path.
func TestWrongGrowthsToTheFirst(t *testing.T) {
	for _, to := range []int{1, 2, 3, 8, 256} {
		wrong := []api.Growth{{}, {From: to, To: to}, {From: 0, To: 0}, {From: 0, To: to - 1}, {From: 0, To: to + 1}, {From: 0, To: -to}, {From: -1, To: to}, {From: 1, To: to}, plain.grow(1, to), plain.grow(to, to), {From: least, To: to}, {From: 0, To: greatest}, {From: 1 << 32, To: to}, {From: 0, To: to + 1<<32}}
		for _, path := range [][][]byte{{nil}, {{}}, {make([]byte, 32)}, {[]byte(plain.at(0).root)}, {[]byte(plain.at(to).root)}, make([][]byte, 9), plain.leaves[:1], plain.leaves[:17], plain.grow(to/2, to).Path} {
			if len(path) > 0 {
				wrong = append(wrong, api.Growth{From: 0, To: to, Path: path})
			}
		}
		takesNone(t, fmt.Sprintf("P18.2: to the first, of size %d", to), 0, plain.signed(to), wrong, api.Growth{From: 0, To: to, Path: [][]byte{}})
	}
}

// ofAllSizes tells the growths of a face up to that size, each as it is and as one between these sizes.
func ofAllSizes(f *face, from, to int) []api.Growth {
	var all []api.Growth
	for b := range to + 1 {
		for a := range b + 1 {
			all = append(all, f.grow(a, b), api.Growth{From: from, To: to, Path: f.grow(a, b).Path})
		}
	}
	return all
}

// P18.2, P18.3: a larger checkpoint of another face, or of no face, is ErrProof with any growth that the faces have, its own among them.
func TestWhatDoesNotGrow(t *testing.T) {
	for _, c := range [][2]int{{1, 2}, {2, 3}, {3, 4}, {3, 7}, {4, 8}, {6, 8}, {8, 13}} {
		from, to := c[0], c[1]
		name := fmt.Sprintf("P18.2: from %d to %d", from, to)
		lies := []point{alien.at(to), {to, plain.at(from).root}, {to, string(make([]byte, 32))}, {to, plain.at(0).root}}
		if from > 2 {
			lies = append(lies, fork.at(to))
		}
		w, d, k := onto(t, name, from, true)
		for _, lie := range lies {
			for _, f := range faces() {
				if lie == f.at(to) && f.at(from) == plain.at(from) {
					continue
				}
				for _, g := range ofAllSizes(f, from, to) {
					cosignsNot(t, name, w, signedBy(logSeed, 2, lie), g, api.ErrProof)
				}
			}
		}
		untouched(t, name, w, d, k, from, true)
	}
}

// P18.2, P18.3: with which face the log goes on is open as long as both are the same; from then on the other one is refused.
func TestTheFirstFaceThatIsShown(t *testing.T) {
	for _, c := range [][2]*face{{plain, fork}, {fork, plain}} {
		w, _, _ := begun(t, "P18.3: faces")
		cosigns(t, "P18.3: faces", w, plain.signed(2), plain.grow(0, 2), 0)
		cosigns(t, "P18.3: faces", w, c[0].signed(3), c[0].grow(2, 3), 1)
		cosignsNot(t, "P18.3: faces", w, c[1].signed(3), c[1].grow(2, 3), api.ErrFork)
		for to := 4; to < 20; to++ {
			for from := range to {
				cosignsNot(t, "P18.3: faces", w, c[1].signed(to), c[1].grow(from, to), api.ErrProof)
				if from != 3 {
					cosignsNot(t, "P18.3: faces", w, c[0].signed(to), c[0].grow(from, to), api.ErrProof)
				}
			}
		}
		cosigns(t, "P18.3: faces", w, c[0].signed(19), c[0].grow(3, 19), 2)
	}
}

// P18.2: a checkpoint on the disk that no log ever had is the one from which the next has to grow: none does.
func TestNothingGrowsFromWhatIsNone(t *testing.T) {
	for _, from := range []int{1, 2, 3, 4, 7} {
		root := string(bytes.Repeat([]byte{7}, 32))
		w := opened(t, "P18.2: no log's", kept(t, lies(rec(uint32(from), root))), kept(t, used(16)), 0, point{from, root}, 16)
		for to := from + 1; to < 12; to++ {
			for _, f := range faces() {
				for _, g := range ofAllSizes(f, from, to) {
					cosignsNot(t, "P18.2: no log's", w, f.signed(to), g, api.ErrProof)
				}
			}
		}
		stands(t, "P18.2: no log's", w, 0, point{from, root}, 16)
	}
}
