package check_test

import (
	"bytes"
	"fmt"
	"slices"
	"testing"

	"broadsheet/api"
	"broadsheet/check"
	"broadsheet/sign"
	"broadsheet/wire"
)

// spoil writes over b and over the room behind it. What is spoilt several times does not come back.
func spoil(b []byte) {
	b = b[:cap(b)]
	for i := range b {
		b[i]++
	}
}

// spoilList writes over all that l reaches, the list itself last.
func spoilList(l [][]byte) {
	for _, b := range l[:cap(l)] {
		spoil(b)
	}
	clear(l[:cap(l)])
}

// spoilAll writes over all that s reaches.
func spoilAll(s api.Signed) {
	spoil(s.Check.Root)
	spoilList(s.Sig.Parts)
	spoilList(s.Sig.Path)
}

// roomyList tells the texts of l, each with room behind it, in a list with room behind it.
func roomyList(l [][]byte) [][]byte {
	list := make([][]byte, 0, len(l)+3)
	for _, b := range l {
		list = append(list, roomy(b))
	}
	behind := append(list, noise(7), noise(8), noise(9))
	return behind[:len(l)]
}

// roomySigned tells s with room behind each text and each list.
func roomySigned(s api.Signed) api.Signed {
	return api.Signed{
		Check: api.Checkpoint{Size: s.Check.Size, Root: roomy(s.Check.Root)},
		Sig:   api.Sig{Index: s.Sig.Index, Parts: roomyList(s.Sig.Parts), Path: roomyList(s.Sig.Path)},
	}
}

// reached is all that was handed in: the texts of lists as they stand there, and their bytes, the room behind each and behind the lists too.
type reached struct {
	texts, bytes [][]byte
}

func reach(s api.Signed) reached {
	texts := slices.Concat([][]byte{s.Check.Root}, s.Sig.Parts[:cap(s.Sig.Parts)], s.Sig.Path[:cap(s.Sig.Path)])
	var r reached
	for _, b := range texts {
		r.texts = append(r.texts, b)
		r.bytes = append(r.bytes, bytes.Clone(b[:cap(b)]))
	}
	return r
}

// stays: is all that s reached as it was, and where it was?
func (r reached) stays(s api.Signed) bool {
	now := reach(s)
	return slices.EqualFunc(r.bytes, now.bytes, bytes.Equal) && slices.EqualFunc(r.texts, now.texts, func(a, b []byte) bool {
		return len(a) == len(b) && cap(a) == cap(b) && (cap(a) == 0 || &a[:1][0] == &b[:1][0])
	})
}

// R2: what is signed is not changed, taken or refused, in any length or behind it, nor when what was told is written over.
func TestSignedsStay(t *testing.T) {
	public := sign.Public(noise(32))
	for i, given := range append(wrongSigneds(), unsigned(5, 3), signed(t, noise(32), 3, point(256)), unsigned(0, 0)) {
		s := roomySigned(given)
		was := reach(s)
		w := wire.New()
		for range 2 {
			check.Right(s.Check)
			spoil(check.Body(s.Check))
			check.Same(s.Check, s.Check)
			check.Same(s.Check, point(5))
			check.Same(point(5), s.Check)
			check.Verify(public, s)
			b, _ := check.Encode(s)
			_ = append(b, noise(50)...)
			spoil(b)
			check.Put(w, s)
			w.Raw(noise(50))
			spoil(w.Done())
		}
		if !was.stays(s) {
			t.Errorf("R2: case %d: what is signed or the room behind its lists changed", i)
		}
		signedIs(t, fmt.Sprintf("R2: case %d", i), s, given)
	}
}

// R2: seeds, Roots, publics and bytes are not changed, in their length or behind it, by calls that take or refuse them.
func TestBytesStay(t *testing.T) {
	for _, n := range []int{0, 1, 31, 32, 33, 64} {
		seed, root, public := noise(n+200), noise(n+300), noise(n+400)
		for _, m := range []int{31, 32, 33} {
			for _, index := range []int{-1, 0, 3, 16} {
				s, _ := check.Sign(seed[:n], index, api.Checkpoint{Size: 5, Root: root[:m]})
				check.Verify(public[:n], s)
				check.Verify(public[:n], unsigned(5, 3))
				spoilAll(s)
			}
		}
		if !bytes.Equal(seed, noise(n+200)) || !bytes.Equal(root, noise(n+300)) || !bytes.Equal(public, noise(n+400)) {
			t.Errorf("R2: %d bytes: a seed, a Root, a public or the room behind it changed", n)
		}
	}
	whole := append(wantLaid(unsigned(5, 3)), noise(100)...)
	for _, n := range []int{0, 3, 4, 35, 36, 40, laidEnd - 1, laidEnd, laidEnd + 1, laidEnd + 100} {
		b := bytes.Clone(whole)
		s, _ := check.Decode(b[:n])
		spoilAll(s)
		s, _ = check.Get(wire.Read(b[:n]))
		spoilAll(s)
		is(t, fmt.Sprintf("R2: %d bytes and the room behind them", n), b, whole)
	}
}

// R2: what was given may be changed afterwards: no answer hangs on it any more.
func TestNothingIsKept(t *testing.T) {
	for index := range api.Keys {
		seed, c := roomy(noise(32)), api.Checkpoint{Size: 16 * index, Root: roomy(noise(32))}
		want := wantSigned(t, noise(32), index, point(16*index))
		body, s := check.Body(c), signed(t, seed, index, c)
		spoil(seed)
		spoil(c.Root)
		is(t, "R2: Body, its Root changed", body, wantBody(want.Check))
		signedIs(t, "R2: Sign, its seed and its Root changed", s, want)
		w := wire.New()
		put, b := check.Put(w, s), laid(t, s)
		spoilAll(s)
		if !put {
			t.Error("P10.2: Put: false")
		}
		is(t, "R2: Put, what it was given changed", w.Done(), wantLaid(want))
		is(t, "R2: Encode, what it was given changed", b, wantLaid(want))
		b = roomy(b)
		r := wire.Read(b)
		back := read(t, b)
		got, ok := check.Get(r)
		spoil(b)
		signedIs(t, "R2: Decode, its bytes changed", back, want)
		signedIs(t, "R2: Get, its bytes changed", got, want)
		if !ok || !check.Verify(sign.Public(noise(32)), got) {
			t.Error("R2: Verify after changes: false")
		}
	}
}

// R2, R4: who asked may write into answers, and into the room behind them: neither what was given nor any other answer changes.
func TestAnswersAreNewMemory(t *testing.T) {
	seed, c := noise(32), point(256)
	want := wantSigned(t, seed, 3, c)
	keptBody, kept := check.Body(c), signed(t, seed, 3, c)
	keptBytes, keptBack := laid(t, want), read(t, wantLaid(want))
	for range 3 {
		body, s := check.Body(c), signed(t, seed, 3, c)
		is(t, "R2: Body again", body, wantBody(want.Check))
		signedIs(t, "R2: Sign again", s, want)
		spoil(body)
		b := laid(t, s)
		spoilAll(s)
		is(t, "R2: Encode, what was signed written over", b, wantLaid(want))
		back := read(t, b)
		spoilAll(back)
		is(t, "R2: bytes of which the answer was written over", b, wantLaid(want))
		spoil(b)
		is(t, "R2: the seed", seed, noise(32))
		is(t, "R2: the Root", c.Root, want.Check.Root)
	}
	is(t, "R2: Body, other answers written over", keptBody, wantBody(want.Check))
	signedIs(t, "R2: Sign, other answers written over", kept, want)
	is(t, "R2: Encode, other answers written over", keptBytes, wantLaid(want))
	signedIs(t, "R2: Decode, other answers written over", keptBack, want)
}

// R2: a reader goes on unchanged when what it gave is written over.
func TestReadersGoOn(t *testing.T) {
	w := wire.New()
	for i := range api.Keys {
		check.Put(w, unsigned(i, i))
	}
	r := wire.Read(w.Done())
	for i := range api.Keys {
		s, ok := check.Get(r)
		if !ok {
			t.Fatalf("P10.2: Get number %d: false", i)
		}
		signedIs(t, "R2: Get behind answers that were written over", s, unsigned(i, i))
		_ = append(s.Check.Root, noise(3000)...)
		for _, b := range slices.Concat(s.Sig.Parts, s.Sig.Path) {
			_ = append(b, noise(3000)...)
		}
		spoilAll(s)
	}
}

// sharesNone writes over each text and each list of s in turn, and looks whether all others stay.
func sharesNone(t *testing.T, name string, s api.Signed) {
	t.Helper()
	texts := func(s api.Signed) [][]byte {
		return slices.Concat([][]byte{s.Check.Root}, s.Sig.Parts, s.Sig.Path)
	}
	want, all := texts(copied(s)), texts(s)
	for place, b := range all {
		_ = append(b, noise(100)...)
		spoil(b)
		for i, other := range all {
			if i != place && !bytes.Equal(other, want[i]) {
				t.Fatalf("R2: %s: text %d written over: text %d changed", name, place, i)
			}
		}
		copy(b, want[place])
	}
	parts, path := s.Sig.Parts[:cap(s.Sig.Parts)], s.Sig.Path[:cap(s.Sig.Path)]
	clear(parts)
	if !slices.EqualFunc(s.Sig.Path, want[1+places:], bytes.Equal) {
		t.Errorf("R2: %s: the list of parts written over: the path changed", name)
	}
	copy(parts, all[1:1+places])
	clear(path)
	if !slices.EqualFunc(s.Sig.Parts, want[1:1+places], bytes.Equal) {
		t.Errorf("R2: %s: the path written over: the list of parts changed", name)
	}
}

// R2: no two lists of one answer share memory, the room behind them included, and none shares any with what was handed in.
func TestListsShareNoMemory(t *testing.T) {
	for index := range api.Keys {
		s := signed(t, noise(32), index, point(5))
		b := laid(t, s)
		back := read(t, b)
		got, ok := check.Get(wire.Read(append(bytes.Clone(b), noise(9)...)))
		if !ok {
			t.Fatal("P10.2: Get: false")
		}
		sharesNone(t, "Sign", s)
		sharesNone(t, "Decode", back)
		sharesNone(t, "Get", got)
	}
	sharesNone(t, "Decode of zeros", read(t, make([]byte, laidEnd)))
}

// R2: what is handed in may be one memory: the seed as Root and as public, one hash at all places.
func TestOneMemoryForAll(t *testing.T) {
	one := noise(32)
	s := signed(t, one, 3, api.Checkpoint{Size: 5, Root: one})
	signedIs(t, "R2: Sign of a Root that is the seed", s, wantSigned(t, noise(32), 3, point(5)))
	if check.Verify(one, s) || !check.Verify(sign.Public(one), s) {
		t.Error("R2: Verify of a public that is the Root")
	}
	spoilAll(s)
	is(t, "R2: the one memory", one, noise(32))
	many := api.Signed{Check: api.Checkpoint{Root: one}, Sig: api.Sig{Parts: slices.Repeat([][]byte{one}, places), Path: slices.Repeat([][]byte{one}, api.Height)}}
	back := read(t, laid(t, many))
	signedIs(t, "R2: one hash at all places, there and back", back, many)
	sharesNone(t, "one hash at all places", back)
	is(t, "R2: the one memory at all places", one, noise(32))
}

// R3: a refused call leaves nothing behind: what is asked next is answered as ever.
func TestRefusalsChangeNothing(t *testing.T) {
	want := wantSigned(t, noise(32), 3, point(5))
	b := wantLaid(want)
	w := wire.New()
	w.Byte(9)
	for i, wrong := range wrongSigneds() {
		check.Sign(noise(i%32), 3, point(5))
		check.Sign(noise(32), 16+i, point(5))
		check.Sign(noise(32), 3, wrong.Check)
		check.Encode(wrong)
		check.Put(w, wrong)
		check.Decode(b[:i%len(b)])
		check.Get(wire.Read(b[:i%len(b)]))
		signedIs(t, "R3: Decode behind refusals", read(t, b), want)
		is(t, "R3: Encode behind refusals", laid(t, want), b)
		is(t, "R3: the writer behind refusals", w.Done(), []byte{9})
	}
	signedIs(t, "R3: Sign behind refusals", signed(t, noise(32), 3, point(5)), want)
}
