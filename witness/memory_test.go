package witness_test

import (
	"fmt"
	"slices"
	"testing"

	"broadsheet/api"
	"broadsheet/check"
	"broadsheet/disk"
	"broadsheet/sign"
	"broadsheet/witness"
)

// spoil writes over b and over the room behind it.
func spoil(b []byte) {
	b = b[:cap(b)]
	for i := range b {
		b[i] ^= 0x5a
	}
}

// wide tells a copy of b with room behind it, in which there is something.
func wide(b []byte) []byte {
	return append(slices.Clone(b), "behind it"...)[:len(b)]
}

// wideEach tells a copy of l, with such room behind it and behind each text: in the list's room there is another text.
func wideEach(l [][]byte) [][]byte {
	var all [][]byte
	for _, b := range l {
		all = append(all, wide(b))
	}
	return append(all, []byte("behind all"))[:len(l)]
}

func wideSigned(s api.Signed) api.Signed {
	return api.Signed{Check: api.Checkpoint{Size: s.Check.Size, Root: wide(s.Check.Root)}, Sig: api.Sig{Index: s.Sig.Index, Parts: wideEach(s.Sig.Parts), Path: wideEach(s.Sig.Path)}}
}

func wideGrowth(g api.Growth) api.Growth {
	return api.Growth{From: g.From, To: g.To, Path: wideEach(g.Path)}
}

// image tells all that lists hold, with the room behind them.
func image(lists ...[][]byte) string {
	text := ""
	for _, l := range lists {
		for _, b := range l[:cap(l)] {
			text += fmt.Sprintf("%q ", b[:cap(b)])
		}
	}
	return text
}

// given tells all lists of what is handed to Cosign.
func given(s api.Signed, g api.Growth) [][][]byte {
	return [][][]byte{{s.Check.Root}, s.Sig.Parts, s.Sig.Path, g.Path}
}

// spoilAll writes over all texts of the lists, and then over the lists, with the room behind them.
func spoilAll(lists [][][]byte) {
	for _, l := range lists {
		l = l[:cap(l)]
		for i := range l {
			spoil(l[i])
			l[i] = nil
		}
	}
}

// R2: what is handed to Cosign is not changed, nor the room behind it, whatever is answered.
func TestWhatIsHandedInStays(t *testing.T) {
	w, _, _ := begun(t, "R2")
	wrong := plain.signed(7)
	wrong.Sig.Parts[3][4] ^= 1
	for i, c := range []struct {
		s    api.Signed
		g    api.Growth
		want api.Errno
	}{
		{plain.signed(3), plain.grow(0, 3), api.OK}, {plain.signed(3), plain.grow(2, 9), api.OK}, {plain.signed(7), plain.grow(3, 7), api.OK}, {plain.signed(7), plain.grow(3, 7), api.OK},
		{wrong, plain.grow(3, 7), api.ErrSign}, {plain.signed(3), plain.grow(2, 9), api.ErrOld}, {alien.signed(7), plain.grow(3, 7), api.ErrFork}, {plain.signed(9), plain.grow(6, 9), api.ErrProof}, {fork.signed(9), fork.grow(7, 9), api.ErrProof}, {api.Signed{}, api.Growth{}, api.ErrSign},
	} {
		s, g := wideSigned(c.s), wideGrowth(c.g)
		was := image(given(s, g)...)
		_, why := w.Cosign(s, g)
		answers(t, fmt.Sprintf("P18.2: case %d", i), why, c.want)
		if image(given(s, g)...) != was {
			t.Errorf("R2: case %d: what was handed in is changed", i)
		}
	}
}

// R2: what was handed to Cosign may be written over, with the room behind it, without any later answer changing.
func TestNothingHandedInIsKept(t *testing.T) {
	w, d, k := begun(t, "R2")
	shows := func(f *face, from, size, key int, want api.Errno) {
		t.Helper()
		s, g := wideSigned(f.signed(size)), wideGrowth(f.grow(from, size))
		lists := given(s, g)
		got, why := w.Cosign(s, g)
		answers(t, "R2", why, want)
		spoilAll(lists)
		if why == api.OK && !alike(got, cosigOf(0, key, f.at(size))) {
			t.Errorf("R2: a cosignature of size %d changes with what was handed in", size)
		}
	}
	for key, size := range []int{3, 7, 8, 20} {
		last := w.Check().Size
		shows(plain, last, size, key, api.OK)
		stands(t, "R2: what was handed in is written over", w, 0, plain.at(size), key+1)
		shows(alien, 0, size+1, 0, api.ErrProof)
		shows(alien, 0, size, 0, api.ErrFork)
		shows(plain, 0, size, key, api.OK)
		shows(plain, 0, 1, 0, api.ErrOld)
		stands(t, "R2: what was handed in is written over", w, 0, plain.at(size), key+1)
	}
	tells(t, "R2: what was handed in is written over", d, plain.lie(3, 7, 8, 20), 4*recSize, false)
	opened(t, "R2: anew", d, k, 0, plain.at(20), 4)
}

// R2: one place for all that is handed in, written over with the next one each time.
func TestOnePlaceForAll(t *testing.T) {
	w, d, _ := begun(t, "R2")
	root := make([]byte, 32, 64)
	path := make([][]byte, 0, 16)
	for key := range 10 {
		size := 4 * (key + 1)
		s, g := plain.signed(size), plain.grow(4*key, size)
		copy(root, s.Check.Root)
		s.Check.Root, g.Path = root, append(path[:0], g.Path...)
		cosigns(t, "R2: one place", w, s, g, key)
		stands(t, "R2: one place", w, 0, plain.at(size), key+1)
	}
	tells(t, "R2: one place", d, plain.lie(4, 8, 12, 16, 20, 24, 28, 32, 36, 40), 10*recSize, false)
}

// R2: the seed and the log that Open was given may be written over, and are not changed, whether it is refused or not.
func TestTheSeedAndTheLogAreNotKept(t *testing.T) {
	for _, text := range []string{plain.lie(2), lies("rubbish"), plain.lie(2) + "12345678"} {
		for id := -1; id < 2; id++ {
			seed, log := wide(seedOf(witnessSeed)), wide(publicOf(logSeed))
			was := image([][]byte{seed, log})
			w, _ := witness.Open(kept(t, text), roomy(t), id, seed, log)
			if image([][]byte{seed, log}) != was {
				t.Errorf("R2: Open changes what was handed in: id %d, %q", id, text)
			}
			spoil(seed)
			spoil(log)
			if w == nil {
				continue
			}
			cosigns(t, "R2: the seed and the log are written over", w, plain.signed(2), api.Growth{}, 0)
			cosigns(t, "R2: the seed and the log are written over", w, plain.signed(5), plain.grow(2, 5), 1)
			cosignsNot(t, "R2: the seed and the log are written over", w, signedBy(otherSeed, 1, plain.at(6)), plain.grow(5, 6), api.ErrSign)
			if string(w.Public()) != string(publicOf(witnessSeed)) {
				t.Errorf("R2: Public changes with the seed that was handed in")
			}
		}
	}
}

// R2, R4: one text as the seed and the log of two witnesses.
func TestTheSeedAsTheLog(t *testing.T) {
	both := wide(seedOf(witnessSeed))
	one, _ := witness.Open(roomy(t), roomy(t), 0, both, both)
	other, _ := witness.Open(roomy(t), roomy(t), 1, both, publicOf(logSeed))
	spoil(both)
	cosignsNot(t, "R2: the seed as the log", one, plain.signed(2), plain.grow(0, 2), api.ErrSign)
	cosigns(t, "R2: the seed as the log", other, plain.signed(2), plain.grow(0, 2), 0)
	if string(one.Public()) != string(publicOf(witnessSeed)) {
		t.Error("R2: the seed as the log: Public")
	}
}

// R2: what Cosign, Check and Public told may be written over without any later answer changing.
func TestAnswersAreNew(t *testing.T) {
	w, d, k := begun(t, "R2")
	spoils := func() {
		for range 2 {
			spoil(w.Check().Root)
			spoil(w.Public())
			spoil(d.Bytes())
			spoil(k.Bytes())
		}
	}
	spoils()
	for key, size := range []int{0, 2, 3, 9} {
		for range 3 {
			g, why := w.Cosign(plain.signed(size), plain.grow(min(w.Check().Size, size), size))
			if why != api.OK || !alike(g, cosigOf(0, key, plain.at(size))) {
				t.Errorf("R2: size %d: %v, or another cosignature", size, why)
			}
			spoilAll([][][]byte{g.Sig.Parts, g.Sig.Path})
			spoils()
			stands(t, "R2: answers are written over", w, 0, plain.at(size), key+1)
		}
	}
	if string(w.Public()) != string(publicOf(witnessSeed)) {
		t.Error("R2: Public is written over")
	}
	w = opened(t, "R2: anew", d, k, 0, plain.at(9), 4)
	spoils()
	cosigns(t, "R2: anew", w, plain.signed(9), api.Growth{}, 4)
	stands(t, "R2: anew", w, 0, plain.at(9), 5)
}

// R2: what a witness told is handed to it again, and to another one, and then written over.
func TestItsOwnAnswersHandedIn(t *testing.T) {
	w, _, _ := begun(t, "R2")
	other := opened(t, "R2", roomy(t), roomy(t), 1, plain.at(0), 0)
	cosigns(t, "R2", w, plain.signed(4), plain.grow(0, 4), 0)
	c := w.Check()
	for range 2 {
		s := plain.signed(4)
		s.Check = c
		cosigns(t, "R2: its own Check", w, s, api.Growth{}, 0)
		cosigns(t, "R2: another one's Check", other, s, plain.grow(0, 4), 0)
	}
	g, _ := w.Cosign(plain.signed(4), api.Growth{})
	cosignsNot(t, "R2: its own cosignature", w, api.Signed{Check: c, Sig: g.Sig}, api.Growth{}, api.ErrSign)
	spoil(c.Root)
	spoilAll([][][]byte{g.Sig.Parts, g.Sig.Path})
	stands(t, "R2: its own Check", w, 0, plain.at(4), 1)
	stands(t, "R2: another one's Check", other, 1, plain.at(4), 1)
	cosigns(t, "R2: its own Check", w, plain.signed(4), api.Growth{}, 0)
	cosigns(t, "R2: another one's Check", other, plain.signed(4), api.Growth{}, 0)
	cosigns(t, "R2: another one's Check", other, plain.signed(6), plain.grow(4, 6), 1)
}

// marks writes a mark of its own over each text, the room behind it included, and then holds that each has its own.
func marks(t *testing.T, name string, texts [][]byte) {
	t.Helper()
	for n, b := range texts {
		for i := range b[:cap(b)] {
			b[:cap(b)][i] = byte(n%250 + 1)
		}
	}
	for n, b := range texts {
		for _, got := range b[:cap(b)] {
			if got != byte(n%250+1) {
				t.Errorf("R2: %s: text %d shares memory with another one", name, n)
				return
			}
		}
	}
}

// R2: no two answers share memory, no two lists of one answer, and none with what was handed in or with what the disks tell.
func TestAnswersAreApart(t *testing.T) {
	w, d, k := begun(t, "R2")
	var texts, lists [][]byte
	var rows [][][]byte
	for size := 1; size < 3; size++ {
		s, g := wideSigned(plain.signed(size)), wideGrowth(plain.grow(size-1, size))
		for range 2 {
			got, why := w.Cosign(s, g)
			answers(t, "R2", why, api.OK)
			rows = append(rows, got.Sig.Parts, got.Sig.Path)
			texts = append(append(texts, got.Sig.Parts...), got.Sig.Path...)
		}
		texts = append(append(append(append(texts, s.Check.Root), s.Sig.Parts...), s.Sig.Path...), g.Path...)
		texts = append(texts, w.Check().Root, w.Check().Root, w.Public(), w.Public(), d.Bytes(), k.Bytes())
	}
	marks(t, "texts", texts)
	for n, l := range rows { // each list is a place of its own, too
		mark := []byte(fmt.Sprint("list ", n))
		lists = append(lists, mark)
		for i := range l[:cap(l)] {
			l[:cap(l)][i] = mark
		}
	}
	for n, l := range rows {
		for _, b := range l[:cap(l)] {
			if string(b) != string(lists[n]) {
				t.Fatalf("R2: list %d shares memory with another one", n)
			}
		}
	}
	stands(t, "R2: answers that are marked", w, 0, plain.at(2), 2)
	cosigns(t, "R2: answers that are marked", w, plain.signed(2), api.Growth{}, 1)
	cosigns(t, "R2: answers that are marked", w, plain.signed(3), plain.grow(2, 3), 2)
}

// R2: the disks are handed on, not copied: what is done to them is seen by the witness, and what it does by them.
func TestTheDisksAreHandedOn(t *testing.T) {
	d, k := made(t, 0), made(t, 0)
	w := opened(t, "R2", d, k, 0, plain.at(0), 0)
	cosignsNot(t, "R2: no room", w, plain.signed(1), plain.grow(0, 1), api.ErrFull)
	d.Grow(recSize)
	cosignsNot(t, "R2: no room for a key", w, plain.signed(1), plain.grow(0, 1), api.ErrFull)
	k.Grow(keySize)
	cosigns(t, "R2: room", w, plain.signed(1), plain.grow(0, 1), 0)
	tells(t, "R2: room", d, plain.lie(1), recSize, false)
	tells(t, "R2: room", k, used(1), keySize, false)
}

// R4, R5: nil and empty lists, and whatever is in the room behind them, mean the same: with the right hash in the room alone a growth is none.
func TestTheRoomBehindIsNotRead(t *testing.T) {
	for _, path := range [][][]byte{nil, {}, plain.grow(2, 3).Path[:0]} {
		w := keyless(t, "R4", plain, 0)
		cosignsNot(t, "R4: no path", w, plain.signed(3), api.Growth{From: 0, To: 3, Path: path}, api.ErrUsed)
		w = keyless(t, "R4", plain, 2)
		cosignsNot(t, "R5: a path in the room", w, plain.signed(3), api.Growth{From: 2, To: 3, Path: path}, api.ErrProof)
	}
	right := plain.grow(3, 7)
	for n := range right.Path {
		w := keyless(t, "R5", plain, 3)
		cosignsNot(t, "R5: hashes in the room", w, plain.signed(7), api.Growth{From: 3, To: 7, Path: right.Path[:n]}, api.ErrProof)
		path := copyOfEach(right.Path)
		path[n] = path[n][:31]
		cosignsNot(t, "R5: a byte in the room", w, plain.signed(7), api.Growth{From: 3, To: 7, Path: path}, api.ErrProof)
		cosignsNot(t, "R5: room behind", w, wideSigned(plain.signed(7)), wideGrowth(right), api.ErrUsed)
	}
	w := keyless(t, "R5", plain, 3)
	s := plain.signed(3)
	s.Check.Root = s.Check.Root[:31]
	cosignsNot(t, "R5: a root in the room", w, s, api.Growth{}, api.ErrSign)
	s = plain.signed(3)
	s.Sig.Parts = s.Sig.Parts[:len(s.Sig.Parts)-1]
	cosignsNot(t, "R5: a part in the room", w, s, api.Growth{}, api.ErrSign)
}

// R2: a witness keeps nothing of what another part was given: the log's own signature, written over behind it.
func TestTheLogsOwnSignature(t *testing.T) {
	s, why := check.Sign(seedOf(logSeed), 3, plain.at(6).check())
	answers(t, "P10.1: Sign", why, api.OK)
	ds := [2]*disk.Disk{roomy(t), roomy(t)}
	w := opened(t, "R2", ds[0], ds[1], 0, plain.at(0), 0)
	g, why := w.Cosign(s, plain.grow(0, 6))
	answers(t, "P18.2: Cosign", why, api.OK)
	spoilAll(given(s, api.Growth{}))
	if !alike(g, cosigOf(0, 0, plain.at(6))) || !sign.Right(g.Sig) {
		t.Error("R2: a cosignature changes with the log's signature")
	}
	stands(t, "R2: the log's signature is written over", w, 0, plain.at(6), 1)
}
