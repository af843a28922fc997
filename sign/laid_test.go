package sign_test

import (
	"bytes"
	"fmt"
	"slices"
	"testing"

	"broadsheet/api"
	"broadsheet/sign"
)

// malformed holds a signature against all calls that ask its form.
func malformed(t *testing.T, name string, s api.Sig) {
	t.Helper()
	if sign.Right(s) {
		t.Errorf("P5.2: %s: Right", name)
	}
	if b, why := sign.Encode(s); why != api.ErrForm || len(b) > 0 {
		t.Errorf("P5.2, R3: %s: Encode: %d bytes, %v", name, len(b), why)
	}
	if sign.Verify(sign.Public(noise(32)), []byte("m"), s) {
		t.Errorf("P5.2: %s: verified", name)
	}
}

// P5.2: the form alone is asked: any hashes are Right, signed or not, with room behind them or not.
func TestRight(t *testing.T) {
	for index := range api.Keys {
		s := api.Sig{Index: index, Parts: hashes(places), Path: hashes(api.Height)}
		if !sign.Right(s) {
			t.Errorf("P5.2: key %d and any hashes: not Right", index)
		}
		s.Parts, s.Path = roomy(s.Parts), roomy(s.Path)
		if !sign.Right(s) {
			t.Errorf("P5.2: key %d and hashes with room: not Right", index)
		}
	}
	one := noise(api.HashSize)
	if !sign.Right(api.Sig{Parts: slices.Repeat([][]byte{one}, places), Path: slices.Repeat([][]byte{one}, api.Height)}) {
		t.Error("P5.2: one hash at all places: not Right")
	}
}

// P5.2: an Index that is no key's.
func TestFormOfIndex(t *testing.T) {
	s := signed(t, noise(32), 3, []byte("m"))
	for _, index := range noKeys {
		s.Index = index
		malformed(t, fmt.Sprint("Index ", index), s)
	}
	malformed(t, "a zero Sig", api.Sig{})
	malformed(t, "a Sig of empty lists", api.Sig{Parts: [][]byte{}, Path: [][]byte{}})
}

// P5.2: too few or too many parts or hashes, with the others in the room behind them or not.
func TestFormCounts(t *testing.T) {
	s := signed(t, noise(32), 3, []byte("m"))
	parts, path := append(copiedList(s.Parts), hashes(9)...), append(copiedList(s.Path), hashes(9)...)
	for n := range places + 9 {
		if n != places {
			malformed(t, fmt.Sprint(n, " parts"), api.Sig{Index: 3, Parts: parts[:n], Path: s.Path})
			malformed(t, fmt.Sprint(n, " parts without room"), api.Sig{Index: 3, Parts: slices.Clip(parts[:n]), Path: s.Path})
		}
	}
	for n := range api.Height + 9 {
		if n != api.Height {
			malformed(t, fmt.Sprint(n, " hashes"), api.Sig{Index: 3, Parts: s.Parts, Path: path[:n]})
			malformed(t, fmt.Sprint(n, " hashes without room"), api.Sig{Index: 3, Parts: s.Parts, Path: slices.Clip(path[:n])})
		}
	}
	malformed(t, "nil parts", api.Sig{Index: 3, Path: s.Path})
	malformed(t, "a nil path", api.Sig{Index: 3, Parts: s.Parts})
	malformed(t, "one nil part more", api.Sig{Index: 3, Parts: append(copiedList(s.Parts), nil), Path: s.Path})
	malformed(t, "one nil hash more", api.Sig{Index: 3, Parts: s.Parts, Path: append(copiedList(s.Path), nil)})
	all := slices.Concat(s.Parts, s.Path)
	for _, n := range []int{0, api.Height, places - 1, places + 1, len(all)} {
		malformed(t, fmt.Sprint("of all hashes as parts ", n), api.Sig{Index: 3, Parts: all[:n], Path: all[n:]})
	}
	malformed(t, "path and parts swapped", api.Sig{Index: 3, Parts: s.Path, Path: s.Parts})
}

// P5.2: a part or a hash of another length, wherever it stands, the rest in the room behind it or not.
func TestFormMeasures(t *testing.T) {
	s := signed(t, noise(32), 3, []byte("m"))
	for place := range places + api.Height {
		for _, size := range []int{0, 1, 31, 33, 64} {
			wrong := copied(s)
			list, at := wrong.Parts, place
			if place >= places {
				list, at = wrong.Path, place-places
			}
			name := fmt.Sprintf("hash %d with %d bytes", place, size)
			list[at] = slices.Concat(list[at], noise(32))[:size]
			malformed(t, name, wrong)
			list[at] = slices.Clip(list[at])
			malformed(t, name+" without room", wrong)
		}
		if place > 0 {
			malformed(t, fmt.Sprintf("hashes %d and %d parted a byte too early", place-1, place), partedEarly(s, place))
		}
	}
	nils := copied(s)
	nils.Parts[places-1], nils.Path[api.Height-1] = nil, nil
	malformed(t, "the last part and the last hash nil", nils)
}

// partedEarly tells s with a byte more at place and one less ahead of it: all bytes one behind the other are the same.
func partedEarly(s api.Sig, place int) api.Sig {
	all := slices.Concat(copiedList(s.Parts), copiedList(s.Path))
	both := slices.Concat(all[place-1], all[place])
	all[place-1], all[place] = slices.Clip(both[:31]), both[31:]
	return api.Sig{Index: s.Index, Parts: all[:places], Path: all[places:]}
}

// P5.2: the Index as four bytes, all parts, the path; and back.
func TestEncodeAndDecode(t *testing.T) {
	seed, msg := noise(32), []byte("m")
	public := sign.Public(seed)
	for index := range api.Keys {
		s := signed(t, seed, index, msg)
		b, why := sign.Encode(s)
		if why != api.OK || len(b) != api.SigSize {
			t.Fatalf("P5.2: Encode of key %d: %d bytes, %v", index, len(b), why)
		}
		is(t, "P5.2: Encode", b, slices.Concat([]byte{0, 0, 0, byte(index)}, bytes.Join(s.Parts, nil), bytes.Join(s.Path, nil)))
		back, why := sign.Decode(b)
		if why != api.OK || !sign.Right(back) || !sign.Same(back, s) || !sign.Verify(public, msg, back) {
			t.Errorf("P5.2: Decode of key %d: %v", index, why)
		}
		sigIs(t, "P5.2: Decode", back, s)
	}
	any := api.Sig{Index: 7, Parts: roomy(hashes(places)), Path: roomy(hashes(api.Height))}
	b, why := sign.Encode(any)
	back, why2 := sign.Decode(b)
	if why != api.OK || why2 != api.OK {
		t.Fatalf("P5.2: any hashes: Encode %v, Decode %v", why, why2)
	}
	sigIs(t, "P5.2: Decode of any hashes with room", back, any)
}

// P5.2: all bytes of that length whose Index is a key's are taken, and are told again as they were.
func TestDecodeOfAnyBytes(t *testing.T) {
	for index := range api.Keys {
		b := noise(api.SigSize + index)[index:]
		copy(b, []byte{0, 0, 0, byte(index)})
		s, why := sign.Decode(b)
		if why != api.OK || s.Index != index {
			t.Errorf("P5.2: Decode of key %d: key %d, %v", index, s.Index, why)
		}
		again, why := sign.Encode(s)
		if why != api.OK || !bytes.Equal(again, b) {
			t.Errorf("P5.2: key %d: decoded and encoded: not the same: %v", index, why)
		}
	}
}

// decodeRefuses holds Decode's answer against a refusal, beside which nothing is told.
func decodeRefuses(t *testing.T, name string, b []byte) {
	t.Helper()
	if s, why := sign.Decode(b); why != api.ErrForm || !isZero(s) {
		t.Errorf("P5.2, R3: Decode of %s: %v, key %d, %d parts, %d hashes", name, why, s.Index, len(s.Parts), len(s.Path))
	}
}

// P5.2: bytes of another length are refused, whatever is in the room behind them.
func TestDecodeOfOtherLengths(t *testing.T) {
	laid, _ := sign.Encode(signed(t, noise(32), 3, []byte("m")))
	decodeRefuses(t, "nil", nil)
	decodeRefuses(t, "no bytes", []byte{})
	longer := append(bytes.Clone(laid), noise(100)...)
	for n := range longer {
		if n != api.SigSize {
			decodeRefuses(t, fmt.Sprint(n, " bytes"), longer[:n])
		}
	}
	decodeRefuses(t, "one byte too few, without room", slices.Clip(laid[:len(laid)-1]))
	decodeRefuses(t, "all but the first byte", laid[1:])
	decodeRefuses(t, "a zero byte more", append(bytes.Clone(laid), 0))
	decodeRefuses(t, "two, one behind the other", slices.Concat(laid, laid))
	decodeRefuses(t, "as many as a long text", noise(api.MaxRecord+1))
}

// P5.2: an Index of Keys or more is refused, in each of its four bytes.
func TestDecodeOfNoKey(t *testing.T) {
	laid, _ := sign.Encode(signed(t, noise(32), 3, []byte("m")))
	for at := range 4 {
		for n := range 256 {
			if n == 0 || at == 3 && n < api.Keys {
				continue // that Index is a key's
			}
			wrong := bytes.Clone(laid)
			wrong[at] = byte(n)
			decodeRefuses(t, fmt.Sprintf("an Index with byte %d as %d", at, n), wrong)
		}
	}
	for _, index := range [][]byte{{0, 0, 0, 16}, {255, 255, 255, 255}, {128, 0, 0, 0}, {3, 0, 0, 0}} {
		decodeRefuses(t, fmt.Sprint("Index ", index), slices.Concat(index, laid[4:]))
	}
}
