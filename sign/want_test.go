package sign_test

import (
	"bytes"
	"crypto/sha256"
	"encoding/binary"
	"math/rand"
	"slices"
	"testing"

	"broadsheet/api"
	"broadsheet/sign"
)

const places = 2 * api.Bits

// The chapters' words written down once more, by the library's sums, for the program to be held against.

func tagged(tag byte, parts ...[]byte) []byte {
	sum := sha256.Sum256(append([]byte{tag}, bytes.Join(parts, nil)...))
	return sum[:]
}

func wantSecret(seed []byte, key, place int) []byte {
	number := binary.BigEndian.AppendUint32(nil, uint32(key))
	return tagged(10, seed, number, []byte{byte(place / 2), byte(place % 2)})
}

func wantShown(seed []byte, key, place int) []byte {
	return tagged(11, wantSecret(seed, key, place))
}

// wantParts tells what is shown of a key that signs msg.
func wantParts(seed []byte, key int, msg []byte) [][]byte {
	digest := binary.BigEndian.Uint32(tagged(13, msg))
	var parts [][]byte
	for place := range places {
		if int(digest>>(31-place/2)&1) == place%2 {
			parts = append(parts, wantSecret(seed, key, place))
		} else {
			parts = append(parts, wantShown(seed, key, place))
		}
	}
	return parts
}

// wantNode tells the node over the keys from first to first + count - 1, from the top down: the program goes from the leaves up.
func wantNode(seed []byte, first, count int) []byte {
	if count > 1 {
		return tagged(14, wantNode(seed, first, count/2), wantNode(seed, first+count/2, count/2))
	}
	var shown [][]byte
	for place := range places {
		shown = append(shown, wantShown(seed, first, place))
	}
	return tagged(12, shown...)
}

func wantPublic(seed []byte) []byte { return wantNode(seed, 0, 16) }

// wantPath tells the halves that the key is not in, the smallest first.
func wantPath(seed []byte, key int) [][]byte {
	var path [][]byte
	first, count := 0, 16
	for count > 1 {
		count /= 2
		if key < first+count {
			path = append(path, wantNode(seed, first+count, count))
		} else {
			path = append(path, wantNode(seed, first, count))
			first += count
		}
	}
	slices.Reverse(path)
	return path
}

// noise tells n bytes that are the same at each run.
func noise(n int) []byte {
	b := make([]byte, n)
	rand.New(rand.NewSource(int64(n) + 1)).Read(b)
	return b
}

// hashes tells n texts of a hash's size, no two alike.
func hashes(n int) [][]byte {
	var l [][]byte
	for i := range n {
		l = append(l, tagged(byte(i), noise(i)))
	}
	return l
}

// signed tells what the program signs with: seeds that are none end the test.
func signed(t *testing.T, seed []byte, index int, msg []byte) api.Sig {
	t.Helper()
	s, why := sign.Sign(seed, index, msg)
	if why != api.OK {
		t.Fatalf("P5.1: Sign with key %d: %v", index, why)
	}
	return s
}

// copied tells s in memory of its own.
func copied(s api.Sig) api.Sig {
	return api.Sig{Index: s.Index, Parts: copiedList(s.Parts), Path: copiedList(s.Path)}
}

func copiedList(l [][]byte) [][]byte {
	out := make([][]byte, 0, len(l))
	for _, b := range l {
		out = append(out, bytes.Clone(b))
	}
	return out
}

func alike(a, b [][]byte) bool { return slices.EqualFunc(a, b, bytes.Equal) }

func alikeSigs(a, b api.Sig) bool {
	return a.Index == b.Index && alike(a.Parts, b.Parts) && alike(a.Path, b.Path)
}

func isZero(s api.Sig) bool { return s.Index == 0 && len(s.Parts) == 0 && len(s.Path) == 0 }

// is holds bytes against those that the document asks for.
func is(t *testing.T, name string, got, want []byte) {
	t.Helper()
	if !bytes.Equal(got, want) {
		t.Errorf("%s: %x, want %x", name, got, want)
	}
}

// sigIs holds a signature against the one that the document asks for.
func sigIs(t *testing.T, name string, got, want api.Sig) {
	t.Helper()
	if !alikeSigs(got, want) {
		t.Errorf("%s: key %d, %d parts, %d hashes: not what it must be", name, got.Index, len(got.Parts), len(got.Path))
	}
}
