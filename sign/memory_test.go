package sign_test

import (
	"bytes"
	"slices"
	"testing"

	"broadsheet/api"
	"broadsheet/sign"
)

// spoil writes over b and over the room behind it.
func spoil(b []byte) {
	b = b[:cap(b)]
	for i := range b {
		b[i] ^= 0xff
	}
}

// spoilSig writes over all that s reaches, the lists themselves last.
func spoilSig(s api.Sig) {
	for _, l := range [][][]byte{s.Parts, s.Path} {
		for _, b := range l[:cap(l)] {
			spoil(b)
		}
		clear(l[:cap(l)])
	}
}

// roomy tells the texts of l, each with room behind it, in a list with room behind it.
func roomy(l [][]byte) [][]byte {
	list := make([][]byte, 0, len(l)+3)
	for _, b := range l {
		list = append(list, append(bytes.Clone(b), noise(50)...)[:len(b)])
	}
	behind := append(list, noise(7), noise(8), noise(9))
	return behind[:len(l)]
}

// reached is all that a list of texts reaches: the room behind each and behind the list too, and where each lies.
type reached struct {
	lists, texts [][]byte
}

func reach(l [][]byte) reached {
	var r reached
	r.lists = slices.Clone(l[:cap(l)])
	for _, b := range r.lists {
		r.texts = append(r.texts, bytes.Clone(b[:cap(b)]))
	}
	return r
}

// stays: is all as it was that l reached?
func (r reached) stays(l [][]byte) bool {
	for i, b := range l[:cap(l)] {
		was := r.lists[i]
		if len(b) != len(was) || cap(b) != cap(was) || !bytes.Equal(b[:cap(b)], r.texts[i]) || cap(b) > 0 && &b[:1][0] != &was[:1][0] {
			return false
		}
	}
	return cap(l) == len(r.lists)
}

// R2: seeds, messages, Publics and bytes are not changed, in their length or behind it, by calls that take or refuse them.
func TestBytesStay(t *testing.T) {
	laid, _ := sign.Encode(signed(t, noise(32), 3, []byte("m")))
	for _, n := range []int{0, 1, 31, 32, 33, 64} {
		seed, msg, public := noise(n+200), noise(n+300), noise(n+400)
		for _, index := range []int{-1, 0, 3, 16} {
			s, _ := sign.Sign(seed[:n], index, msg[:n])
			sign.Verify(public[:n], msg[:n], s)
		}
		sign.Public(seed[:n])
		if !bytes.Equal(seed, noise(n+200)) || !bytes.Equal(msg, noise(n+300)) || !bytes.Equal(public, noise(n+400)) {
			t.Errorf("R2: %d bytes: a seed, a message, a Public or the room behind it changed", n)
		}
	}
	for _, n := range []int{0, 3, 4, api.SigSize - 1, api.SigSize, api.SigSize + 1} {
		b := append(bytes.Clone(laid), noise(100)...)
		sign.Decode(b[:n])
		if !bytes.Equal(b, append(bytes.Clone(laid), noise(100)...)) {
			t.Errorf("R2: Decode of %d bytes: they or the room behind them changed", n)
		}
	}
}

// R2: signatures that are handed in are not changed, taken or refused, in any length or behind it, and their lists still have the same texts.
func TestSigsStay(t *testing.T) {
	seed, msg := noise(32), []byte("m")
	made := signed(t, seed, 3, msg)
	for name, change := range map[string]func(s *api.Sig){
		"taken":              func(s *api.Sig) {},
		"another Index":      func(s *api.Sig) { s.Index = 2 },
		"no Index":           func(s *api.Sig) { s.Index = 16 },
		"one part too few":   func(s *api.Sig) { s.Parts = s.Parts[:places-1] },
		"one part too short": func(s *api.Sig) { s.Parts[places-1] = s.Parts[places-1][:31] },
		"one hash too few":   func(s *api.Sig) { s.Path = s.Path[:api.Height-1] },
		"one hash too short": func(s *api.Sig) { s.Path[api.Height-1] = s.Path[api.Height-1][:31] },
	} {
		s := api.Sig{Index: 3, Parts: roomy(made.Parts), Path: roomy(made.Path)}
		change(&s)
		parts, path := reach(s.Parts), reach(s.Path)
		verified := sign.Verify(sign.Public(seed), msg, s)
		b, _ := sign.Encode(s)
		sign.Right(s)
		sign.Same(s, made)
		sign.Same(made, s)
		spoil(b)
		if verified != (name == "taken") || !parts.stays(s.Parts) || !path.stays(s.Path) {
			t.Errorf("R2: %s: verified %v; the signature or the room behind its lists changed", name, verified)
		}
	}
}

// R2: what is behind the length of texts and lists is not read.
func TestNoRoomIsRead(t *testing.T) {
	seed, msg := append(noise(32), noise(50)...)[:32], append([]byte("m"), noise(50)...)[:1]
	s := signed(t, seed, 3, msg)
	sigIs(t, "R2: Sign of a seed and a message with room", s, api.Sig{Index: 3, Parts: wantParts(noise(32), 3, []byte("m")), Path: wantPath(noise(32), 3)})
	is(t, "R2: Public of a seed with room", sign.Public(seed), wantPublic(noise(32)))
	public := append(wantPublic(noise(32)), noise(50)...)[:32]
	if !sign.Verify(public, msg, api.Sig{Index: 3, Parts: roomy(s.Parts), Path: roomy(s.Path)}) {
		t.Error("R2: Verify of hashes with room")
	}
	laid, _ := sign.Encode(s)
	back, why := sign.Decode(append(bytes.Clone(laid), noise(50)...)[:len(laid)])
	if why != api.OK {
		t.Errorf("R2: Decode of bytes with room: %v", why)
	}
	sigIs(t, "R2: Decode of bytes with room", back, s)
}

// R2: what was given may be changed afterwards: no answer hangs on it any more.
func TestNothingIsKept(t *testing.T) {
	seed, msg := noise(32), noise(100)
	s, public := signed(t, seed, 3, msg), sign.Public(seed)
	want := copied(s)
	spoil(seed)
	spoil(msg)
	sigIs(t, "R2: Sign, its seed and message changed", s, want)
	is(t, "R2: Public, its seed changed", public, wantPublic(noise(32)))
	is(t, "R2: Public of a changed seed", sign.Public(seed), wantPublic(seed))
	laid, _ := sign.Encode(s)
	kept := bytes.Clone(laid)
	spoilSig(s)
	is(t, "R2: Encode, its signature changed", laid, kept)
	back, _ := sign.Decode(laid)
	spoil(laid)
	sigIs(t, "R2: Decode, its bytes changed", back, want)
	if !sign.Verify(public, noise(100), back) {
		t.Error("R2: Verify after changes")
	}
}

// R2, R4: who asked may write into answers, and into the room behind them: neither what was given nor any later answer changes.
func TestAnswersAreNewMemory(t *testing.T) {
	seed, msg := noise(32), noise(100)
	want := api.Sig{Index: 3, Parts: wantParts(seed, 3, msg), Path: wantPath(seed, 3)}
	wantLaid := slices.Concat([]byte{0, 0, 0, 3}, bytes.Join(want.Parts, nil), bytes.Join(want.Path, nil))
	for range 3 {
		public, s := sign.Public(seed), signed(t, seed, 3, msg)
		is(t, "R2: Public", public, wantPublic(noise(32)))
		sigIs(t, "R2: Sign", s, want)
		laid, _ := sign.Encode(s)
		is(t, "R2: Encode", laid, wantLaid)
		back, _ := sign.Decode(laid)
		sigIs(t, "R2: Decode", back, want)
		spoilSig(back)
		is(t, "R2: the bytes of a signature that was written over", laid, wantLaid)
		spoil(laid)
		sigIs(t, "R2: the signature of bytes that were written over", s, want)
		spoilSig(s)
		spoil(public)
		is(t, "R2: the seed", seed, noise(32))
		is(t, "R2: the message", msg, noise(100))
	}
}

// sharesNone writes over each text and each list of s in turn, and looks whether all others stay.
func sharesNone(t *testing.T, name string, s api.Sig) {
	t.Helper()
	want := slices.Concat(copiedList(s.Parts), copiedList(s.Path))
	all := slices.Concat(s.Parts, s.Path)
	for place, b := range all {
		spoil(b)
		for i, other := range all {
			if i != place && !bytes.Equal(other, want[i]) {
				t.Fatalf("R2: %s: hash %d written over: hash %d changed", name, place, i)
			}
		}
		spoil(b)
		is(t, "R2: "+name+": a hash written over twice", b, want[place])
	}
	parts, path := s.Parts[:cap(s.Parts)], s.Path[:cap(s.Path)]
	clear(parts)
	if !alike(s.Path, want[places:]) {
		t.Errorf("R2: %s: the list of parts written over: the path changed", name)
	}
	copy(parts, all[:places])
	clear(path)
	if !alike(s.Parts, want[:places]) {
		t.Errorf("R2: %s: the path written over: the list of parts changed", name)
	}
}

// R2: no two lists of one answer share memory, the room behind them included.
func TestListsShareNoMemory(t *testing.T) {
	for index := range api.Keys {
		s := signed(t, noise(32), index, []byte("m"))
		laid, _ := sign.Encode(s)
		back, why := sign.Decode(laid)
		if why != api.OK {
			t.Fatalf("P5.2: Decode: %v", why)
		}
		sharesNone(t, "Sign", s)
		sharesNone(t, "Decode", back)
	}
	zeros := make([]byte, api.SigSize)
	back, why := sign.Decode(zeros)
	if why != api.OK || len(back.Parts) != places || len(back.Path) != api.Height {
		t.Fatalf("P5.2: Decode of zeros: %v", why)
	}
	sharesNone(t, "Decode of zeros", back)
}
