package check_test

import (
	"bytes"
	"crypto/sha256"
	"encoding/binary"
	"math"
	"math/rand"
	"slices"
	"testing"

	"broadsheet/api"
	"broadsheet/check"
	"broadsheet/sign"
)

// How many parts a signature has, and where what is laid down begins.
const (
	places  = 2 * api.Bits
	rootAt  = 4
	indexAt = rootAt + api.HashSize
	partsAt = indexAt + 4
	laidEnd = indexAt + api.SigSize
)

// Sizes and Indexes that may be, the edges and those at which a byte more is needed among them, and such as may not: those too that four bytes would make small ones of.
var (
	sizes     = []int{0, 1, 2, 5, 127, 128, 254, 255, 256}
	noSizes   = []int{math.MinInt, math.MinInt + 1, math.MinInt + 256, -1 << 32, -1<<32 + 1, -257, -256, -255, -2, -1, 257, 258, 511, 512, 1 << 16, 1<<16 + 1, 1<<31 - 1, 1 << 31, 1<<32 - 1, 1 << 32, 1<<32 + 1, 1<<32 + 256, math.MaxInt - 1, math.MaxInt}
	noIndexes = []int{math.MinInt, math.MinInt + 3, -1<<32 + 3, -16, -1, 16, 17, 31, 255, 256, 1<<31 + 3, 1 << 32, 1<<32 + 3, math.MaxInt}
)

// The chapter's words written down once more, by the library's means, for the program to be held against.

func wantRight(c api.Checkpoint) bool { return c.Size >= 0 && c.Size <= 256 && len(c.Root) == 32 }

// wantBody tells what is signed of a checkpoint that is right.
func wantBody(c api.Checkpoint) []byte {
	b := []byte{'b', 'r', 'o', 'a', 'd', 's', 'h', 'e', 'e', 't', ' ', 'c', 'h', 'e', 'c', 'k'}
	return append(binary.BigEndian.AppendUint32(b, uint32(c.Size)), c.Root...)
}

// wantLaid lays down what is not right, too.
func wantLaid(s api.Signed) []byte {
	b := append(binary.BigEndian.AppendUint32(nil, uint32(s.Check.Size)), s.Check.Root...)
	b = binary.BigEndian.AppendUint32(b, uint32(s.Sig.Index))
	return slices.Concat(b, bytes.Join(s.Sig.Parts, nil), bytes.Join(s.Sig.Path, nil))
}

// wantRead tells which checkpoint and signature that are right are laid down as just these bytes, each field by its place.
func wantRead(b []byte) (api.Signed, bool) {
	if len(b) != laidEnd {
		return api.Signed{}, false
	}
	size, index := binary.BigEndian.Uint32(b), binary.BigEndian.Uint32(b[indexAt:])
	if size > 256 || index > 15 {
		return api.Signed{}, false
	}
	hashes := slices.Collect(slices.Chunk(bytes.Clone(b[partsAt:]), 32))
	return api.Signed{
		Check: api.Checkpoint{Size: int(size), Root: bytes.Clone(b[rootAt:indexAt])},
		Sig:   api.Sig{Index: int(index), Parts: hashes[:places], Path: hashes[places:]},
	}, true
}

// noise tells n bytes that are the same at each run.
func noise(n int) []byte {
	b := make([]byte, n)
	rand.New(rand.NewSource(int64(n) + 1)).Read(b)
	return b
}

// hashes tells n texts of a hash's size, no two alike, from the first one on.
func hashes(n, first int) [][]byte {
	var l [][]byte
	for i := range n {
		sum := sha256.Sum256([]byte{byte(first + i)})
		l = append(l, sum[:])
	}
	return l
}

// point tells a checkpoint of that size with the root of all others here.
func point(size int) api.Checkpoint { return api.Checkpoint{Size: size, Root: noise(api.HashSize)} }

// rooted tells a checkpoint whose root has n bytes.
func rooted(n int) api.Checkpoint { return api.Checkpoint{Size: 5, Root: noise(n)} }

// unsigned tells a checkpoint and what has the form of a signature, but nobody made it.
func unsigned(size, index int) api.Signed {
	return api.Signed{Check: point(size), Sig: api.Sig{Index: index, Parts: hashes(places, 0), Path: hashes(api.Height, places)}}
}

// notRight are checkpoints that are not right: by their Size, by their Root, by both.
func notRight() []api.Checkpoint {
	l := []api.Checkpoint{{}, {Root: []byte{}}, {Size: 5}, {Size: 256, Root: []byte{}}, {Size: -1}, {Size: 257, Root: noise(31)}}
	for _, size := range noSizes {
		l = append(l, point(size))
	}
	for n := range 70 {
		if n != api.HashSize {
			l = append(l, rooted(n), api.Checkpoint{Size: 5, Root: noise(100)[:n]})
		}
	}
	return append(l, rooted(api.MaxRecord+1), rooted(256+32))
}

// wrongSigs are what sign.Right refuses, made from s.
func wrongSigs(s api.Sig) []api.Sig {
	l := []api.Sig{{}, {Parts: [][]byte{}, Path: [][]byte{}}, {Index: s.Index, Parts: s.Path, Path: s.Parts}}
	for _, index := range noIndexes {
		l = append(l, api.Sig{Index: index, Parts: s.Parts, Path: s.Path})
	}
	for _, n := range []int{0, 1, places - 1} {
		l = append(l, api.Sig{Index: s.Index, Parts: s.Parts[:n], Path: s.Path})
	}
	for n := range api.Height {
		l = append(l, api.Sig{Index: s.Index, Parts: s.Parts, Path: s.Path[:n]})
	}
	more := noise(api.HashSize)
	l = append(l, api.Sig{Index: s.Index, Parts: append(copiedList(s.Parts), more), Path: s.Path})
	l = append(l, api.Sig{Index: s.Index, Parts: s.Parts, Path: append(copiedList(s.Path), more)})
	for _, n := range []int{0, 31, 33} {
		parts, path := copiedList(s.Parts), copiedList(s.Path)
		parts[places-1], path[api.Height-1] = noise(n), noise(n)
		l = append(l, api.Sig{Index: s.Index, Parts: parts, Path: s.Path}, api.Sig{Index: s.Index, Parts: s.Parts, Path: path})
	}
	return l
}

// wrongSigneds are what may not be laid down: by the checkpoint, by the signature, by both.
func wrongSigneds() []api.Signed {
	right := unsigned(5, 3)
	l := []api.Signed{{}}
	for _, c := range notRight() {
		l = append(l, api.Signed{Check: c, Sig: right.Sig}, api.Signed{Check: c})
	}
	for _, sig := range wrongSigs(right.Sig) {
		l = append(l, api.Signed{Check: right.Check, Sig: sig}, api.Signed{Check: point(257), Sig: sig})
	}
	return l
}

// roomy tells b with room behind it, in which bytes stand.
func roomy(b []byte) []byte { return append(bytes.Clone(b), noise(50)...)[:len(b)] }

func copiedList(l [][]byte) [][]byte {
	out := make([][]byte, 0, len(l))
	for _, b := range l {
		out = append(out, bytes.Clone(b))
	}
	return out
}

// copied tells s in memory of its own.
func copied(s api.Signed) api.Signed {
	return api.Signed{
		Check: api.Checkpoint{Size: s.Check.Size, Root: bytes.Clone(s.Check.Root)},
		Sig:   api.Sig{Index: s.Sig.Index, Parts: copiedList(s.Sig.Parts), Path: copiedList(s.Sig.Path)},
	}
}

func alike(a, b api.Signed) bool {
	return a.Check.Size == b.Check.Size && bytes.Equal(a.Check.Root, b.Check.Root) && a.Sig.Index == b.Sig.Index &&
		slices.EqualFunc(a.Sig.Parts, b.Sig.Parts, bytes.Equal) && slices.EqualFunc(a.Sig.Path, b.Sig.Path, bytes.Equal)
}

// isZero: is each field its zero value, a list empty?
func isZero(s api.Signed) bool { return alike(s, api.Signed{}) }

// is holds bytes against those that the document asks for.
func is(t *testing.T, name string, got, want []byte) {
	t.Helper()
	if !bytes.Equal(got, want) {
		t.Errorf("%s: %x, want %x", name, got, want)
	}
}

// signedIs holds what was signed against what the document asks for, in each field.
func signedIs(t *testing.T, name string, got, want api.Signed) {
	t.Helper()
	if !alike(got, want) {
		t.Errorf("%s: Size %d, Root %x, key %d, %d parts, %d hashes: not what it must be", name, got.Check.Size, got.Check.Root, got.Sig.Index, len(got.Sig.Parts), len(got.Sig.Path))
	}
}

// wantSigned tells what Sign must answer: the checkpoint, and the signature that package sign gives.
func wantSigned(t *testing.T, seed []byte, index int, c api.Checkpoint) api.Signed {
	t.Helper()
	sig, why := sign.Sign(seed, index, wantBody(c))
	if why != api.OK {
		t.Fatalf("P5.1: sign.Sign with key %d: %v", index, why)
	}
	return copied(api.Signed{Check: c, Sig: sig})
}

// signed tells what the program signs: what it refuses ends the test.
func signed(t *testing.T, seed []byte, index int, c api.Checkpoint) api.Signed {
	t.Helper()
	s, why := check.Sign(seed, index, c)
	if why != api.OK {
		t.Fatalf("P10.1: Sign with key %d of Size %d: %v", index, c.Size, why)
	}
	return s
}

// laid tells what the program lays down: what it refuses ends the test.
func laid(t *testing.T, s api.Signed) []byte {
	t.Helper()
	b, why := check.Encode(s)
	if why != api.OK {
		t.Fatalf("P10.2: Encode of Size %d, key %d: %v", s.Check.Size, s.Sig.Index, why)
	}
	return b
}

// read tells what the program reads: bytes that it refuses end the test.
func read(t *testing.T, b []byte) api.Signed {
	t.Helper()
	s, why := check.Decode(b)
	if why != api.OK {
		t.Fatalf("P10.2: Decode of %d bytes: %v", len(b), why)
	}
	return s
}
