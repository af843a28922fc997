package sign_test

import (
	"fmt"
	"math"
	"slices"
	"testing"

	"broadsheet/api"
	"broadsheet/sign"
)

// sameIs holds Same's answer, asked both ways, against what the document asks for.
func sameIs(t *testing.T, name string, a, b api.Sig, want bool) {
	t.Helper()
	if sign.Same(a, b) != want || sign.Same(b, a) != want {
		t.Errorf("P5.2: Same: %s: %v and %v, want %v", name, sign.Same(a, b), sign.Same(b, a), want)
	}
}

// P5.2, R4: alike in other memory, with room or without, with nil or empty lists.
func TestSameOfAlike(t *testing.T) {
	s := signed(t, noise(32), 3, []byte("m"))
	sameIs(t, "itself", s, s, true)
	sameIs(t, "a copy", s, copied(s), true)
	sameIs(t, "signed twice", s, signed(t, noise(32), 3, []byte("m")), true)
	sameIs(t, "a copy with room", s, api.Sig{Index: 3, Parts: roomy(s.Parts), Path: roomy(s.Path)}, true)
	sameIs(t, "zero Sigs", api.Sig{}, api.Sig{}, true)
	for _, empty := range [][][]byte{nil, {}, copied(s).Parts[:0]} {
		sameIs(t, "no lists and empty ones", api.Sig{}, api.Sig{Parts: empty, Path: empty}, true)
		sameIs(t, "no parts and empty ones", api.Sig{Path: s.Path}, api.Sig{Parts: empty, Path: s.Path}, true)
		sameIs(t, "no path and an empty one", api.Sig{Parts: s.Parts}, api.Sig{Parts: s.Parts, Path: empty}, true)
	}
	for place := range places + api.Height {
		sameIs(t, fmt.Sprintf("hash %d nil and empty", place), replaced(s, place, nil), replaced(s, place, []byte{}), true)
		sameIs(t, fmt.Sprintf("hash %d nil and empty with room", place), replaced(s, place, nil), replaced(s, place, noise(32)[:0]), true)
	}
}

// replaced tells s with another text as one of its parts, or as one hash of the Path behind them.
func replaced(s api.Sig, place int, text []byte) api.Sig {
	other := copied(s)
	if place < places {
		other.Parts[place] = text
	} else {
		other.Path[place-places] = text
	}
	return other
}

// P5.2: signatures that are not Right are the same, too, where they are alike.
func TestSameOfWrongForms(t *testing.T) {
	for _, index := range append([]int{0}, noKeys...) {
		a := api.Sig{Index: index, Parts: [][]byte{noise(1), nil, noise(40)}, Path: [][]byte{noise(5)}}
		sameIs(t, fmt.Sprint("Index ", index), a, copied(a), true)
		other := copied(a)
		other.Index ^= 1
		sameIs(t, fmt.Sprint("not Index ", index), a, other, false)
		other.Index = index ^ 1<<32
		sameIs(t, fmt.Sprint("not Index ", index, " above 32 bits"), a, other, false)
	}
	sameIs(t, "the least and the highest Index", api.Sig{Index: math.MinInt}, api.Sig{Index: math.MaxInt}, false)
}

// P5.2: one bit, one length or one place that differs.
func TestSameOfUnlike(t *testing.T) {
	s := signed(t, noise(32), 3, []byte("m"))
	for index := range api.Keys {
		other := copied(s)
		other.Index = index
		sameIs(t, fmt.Sprint("Index ", index), s, other, index == 3)
	}
	for place := range places + api.Height {
		for bit := range 8 * api.HashSize {
			sameIs(t, fmt.Sprintf("hash %d, bit %d turned", place, bit), s, turnedAt(s, place, bit), false)
		}
		whole := slices.Concat(s.Parts, s.Path)[place]
		sameIs(t, fmt.Sprintf("hash %d shorter", place), s, replaced(s, place, whole[:31]), false)
		sameIs(t, fmt.Sprintf("hash %d longer", place), s, replaced(s, place, append(slices.Clone(whole), 0)), false)
		sameIs(t, fmt.Sprintf("hash %d nil", place), s, replaced(s, place, nil), false)
		if place > 0 {
			sameIs(t, fmt.Sprintf("hashes %d and %d parted elsewhere", place-1, place), s, partedEarly(s, place), false)
		}
	}
}

// P5.2: lists of other lengths, the same hashes as other lists, and another order.
func TestSameOfOtherLists(t *testing.T) {
	s := signed(t, noise(32), 3, []byte("m"))
	sameIs(t, "a zero Sig", s, api.Sig{}, false)
	for n := range places {
		sameIs(t, fmt.Sprint(n, " parts"), s, api.Sig{Index: 3, Parts: s.Parts[:n], Path: s.Path}, false)
	}
	for n := range api.Height {
		sameIs(t, fmt.Sprint(n, " hashes"), s, api.Sig{Index: 3, Parts: s.Parts, Path: s.Path[:n]}, false)
	}
	sameIs(t, "a nil part more", s, api.Sig{Index: 3, Parts: append(copiedList(s.Parts), nil), Path: s.Path}, false)
	sameIs(t, "a nil hash more", s, api.Sig{Index: 3, Parts: s.Parts, Path: append(copiedList(s.Path), nil)}, false)
	sameIs(t, "no part and a nil one", api.Sig{}, api.Sig{Parts: [][]byte{nil}}, false)
	sameIs(t, "no hash and a nil one", api.Sig{}, api.Sig{Path: [][]byte{nil}}, false)
	sameIs(t, "hashes as parts and as path", api.Sig{Parts: s.Path}, api.Sig{Path: s.Path}, false)
	all := slices.Concat(s.Parts, s.Path)
	sameIs(t, "a hash of the path as a part", s, api.Sig{Index: 3, Parts: all[:places+1], Path: all[places+1:]}, false)
	for i := range len(all) - 1 {
		if i == places-1 {
			continue
		}
		swapped := replaced(replaced(s, i, all[i+1]), i+1, all[i])
		sameIs(t, fmt.Sprintf("hashes %d and %d swapped", i, i+1), s, swapped, false)
	}
}
