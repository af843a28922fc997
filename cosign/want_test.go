package cosign_test

import (
	"bytes"
	"crypto/sha256"
	"encoding/binary"
	"fmt"
	"math"
	"math/rand"
	"slices"
	"testing"

	"broadsheet/api"
	"broadsheet/cosign"
	"broadsheet/sign"
)

// How many parts a signature has, and where what is laid down begins.
const (
	places  = 2 * api.Bits
	indexAt = 1
	partsAt = indexAt + 4
	laidEnd = indexAt + api.SigSize
)

// Sizes that may be, the edges among them, and numbers that may not be, those too of which fewer bytes would make small ones.
var (
	sizes       = []int{0, 1, 2, 5, 127, 128, 254, 255, 256}
	noSizes     = []int{math.MinInt, math.MinInt + 5, -1<<32 + 5, -256, -1, 257, 258, 512, 1<<16 + 5, 1<<31 - 1, 1 << 31, 1 << 32, 1<<32 + 5, math.MaxInt}
	noIndexes   = []int{math.MinInt, math.MinInt + 3, -1<<32 + 3, -16, -1, 16, 17, 31, 255, 256, 1<<31 + 3, 1 << 32, 1<<32 + 3, math.MaxInt}
	noWitnesses = []int{math.MinInt, math.MinInt + 1, -1 << 32, -1<<32 + 1, -256, -255, -4, -3, -2, -1, 4, 5, 6, 7, 8, 16, 127, 128, 255, 256, 257, 259, 1 << 16, 1<<16 + 1, 1<<31 - 1, 1 << 31, 1 << 32, 1<<32 + 1, math.MaxInt - 1, math.MaxInt}
	noQuorums   = []int{math.MinInt, math.MinInt + 1, -1 << 32, -1<<32 + 1, -256, -4, -2, -1, 0, 5, 6, 256, 257, 1 << 31, 1<<32 + 1, math.MaxInt - 1, math.MaxInt}
)

// The chapter's words written down once more, by the library's means, for the program to be held against.

func wantRight(p api.Policy) bool {
	unlike := map[string]int{}
	for _, key := range p.Witnesses {
		if len(key) != 32 {
			return false
		}
		unlike[string(key)]++
	}
	n := len(p.Witnesses)
	return len(p.Log) == 32 && n >= 1 && n <= 4 && len(unlike) == n && p.Quorum >= 1 && p.Quorum <= n
}

// wantBody tells what is signed of a checkpoint that is right.
func wantBody(c api.Checkpoint) []byte {
	b := []byte{'b', 'r', 'o', 'a', 'd', 's', 'h', 'e', 'e', 't', ' ', 'c', 'o', 's', 'i', 'g', 'n'}
	return append(binary.BigEndian.AppendUint32(b, uint32(c.Size)), c.Root...)
}

// wantLaid lays down what is not right, too.
func wantLaid(g api.Cosig) []byte {
	b := binary.BigEndian.AppendUint32([]byte{byte(g.Witness)}, uint32(g.Sig.Index))
	return slices.Concat(b, bytes.Join(g.Sig.Parts, nil), bytes.Join(g.Sig.Path, nil))
}

// wantRead tells which cosignature that may be laid down begins these bytes, each field by its place.
func wantRead(b []byte) (api.Cosig, bool) {
	if len(b) < laidEnd || b[0] > 3 || binary.BigEndian.Uint32(b[indexAt:]) > 15 {
		return api.Cosig{}, false
	}
	hashes := slices.Collect(slices.Chunk(bytes.Clone(b[partsAt:laidEnd]), 32))
	return api.Cosig{Witness: int(b[0]), Sig: api.Sig{Index: int(b[partsAt-1]), Parts: hashes[:places], Path: hashes[places:]}}, true
}

// noise tells n bytes that are the same at each run.
func noise(n int) []byte {
	b := make([]byte, n)
	rand.New(rand.NewSource(int64(n) + 1)).Read(b)
	return b
}

// hashes tells n texts of a hash's size, no two alike, from the first one on.
func hashes(n, first int) [][]byte {
	var l [][]byte
	for i := range n {
		sum := sha256.Sum256([]byte{byte(first + i)})
		l = append(l, sum[:])
	}
	return l
}

// logNumber is under which seedOf has the log's seed; the witnesses' stand under their numbers.
const logNumber = 100

func seedOf(who int) []byte { return noise(500 + who)[:api.SeedSize] }

var publics = map[int][]byte{} // a public takes a thousand sums: each is made once

func publicOf(who int) []byte {
	if publics[who] == nil {
		publics[who] = sign.Public(seedOf(who))
	}
	return bytes.Clone(publics[who])
}

// policy tells one of the first n witnesses.
func policy(n, quorum int) api.Policy {
	p := api.Policy{Log: publicOf(logNumber), Quorum: quorum}
	for who := range n {
		p.Witnesses = append(p.Witnesses, publicOf(who))
	}
	return p
}

// point tells a checkpoint of that size with the root of all others here.
func point(size int) api.Checkpoint { return api.Checkpoint{Size: size, Root: noise(api.HashSize)} }

// notRight are checkpoints that are not right: by their Size, by their Root, by both.
func notRight() []api.Checkpoint {
	l := []api.Checkpoint{{}, {Root: []byte{}}, {Size: 5}, {Size: 256, Root: []byte{}}, {Size: -1}, {Size: 257, Root: noise(31)}}
	for _, size := range noSizes {
		l = append(l, point(size))
	}
	for _, n := range []int{0, 1, 16, 30, 31, 33, 34, 64, 256 + 32} {
		l = append(l, api.Checkpoint{Size: 5, Root: noise(n)}, api.Checkpoint{Size: 5, Root: noise(400)[:n]})
	}
	return l
}

// wrongPolicy is a policy that is not right, and why.
type wrongPolicy struct {
	name string
	p    api.Policy
}

// wrongPolicies are such as have the right keys of the first witnesses but for one thing.
func wrongPolicies() []wrongPolicy {
	l := []wrongPolicy{{"a zero one", api.Policy{}}, {"empty lists", api.Policy{Log: []byte{}, Witnesses: [][]byte{}, Quorum: 1}}}
	add := func(name string, p api.Policy, change func(p *api.Policy)) {
		change(&p)
		l = append(l, wrongPolicy{name, p})
	}
	for _, n := range []int{0, 1, 31, 33, 64} {
		add(fmt.Sprintf("a Log of %d bytes", n), policy(3, 2), func(p *api.Policy) { p.Log = noise(n) })
		add(fmt.Sprintf("a last Witness of %d bytes", n), policy(3, 2), func(p *api.Policy) { p.Witnesses[2] = noise(n) })
	}
	add("a nil Log", policy(3, 2), func(p *api.Policy) { p.Log = nil })
	add("a nil Witness", policy(3, 2), func(p *api.Policy) { p.Witnesses[2] = nil })
	for _, n := range []int{5, 6, 20, 300} {
		add(fmt.Sprintf("%d Witnesses", n), policy(4, 2), func(p *api.Policy) { p.Witnesses = append(p.Witnesses, hashes(n-4, 0)...) })
	}
	add("two Witnesses the same", policy(3, 2), func(p *api.Policy) { p.Witnesses[2] = p.Witnesses[1] })
	add("the first and the last the same", policy(3, 2), func(p *api.Policy) { p.Witnesses = append(p.Witnesses, publicOf(0)) })
	for _, quorum := range noQuorums {
		add(fmt.Sprintf("a Quorum of %d", quorum), policy(3, quorum), func(p *api.Policy) {})
	}
	add("a Quorum of 4 of 3", policy(3, 4), func(p *api.Policy) {})
	add("a Quorum of 2 of 1", policy(1, 2), func(p *api.Policy) {})
	return l
}

// unsigned tells what has the form of a cosignature, but nobody made it.
func unsigned(witness, index int) api.Cosig {
	return api.Cosig{Witness: witness, Sig: api.Sig{Index: index, Parts: hashes(places, 0), Path: hashes(api.Height, places)}}
}

// wrongSigs are what sign.Right refuses, made from s.
func wrongSigs(s api.Sig) []api.Sig {
	l := []api.Sig{{}, {Parts: [][]byte{}, Path: [][]byte{}}, {Index: s.Index, Parts: s.Path, Path: s.Parts}}
	for _, index := range noIndexes {
		l = append(l, api.Sig{Index: index, Parts: s.Parts, Path: s.Path})
	}
	for _, n := range []int{0, 1, places - 1} {
		l = append(l, api.Sig{Index: s.Index, Parts: s.Parts[:n], Path: s.Path})
	}
	for n := range api.Height {
		l = append(l, api.Sig{Index: s.Index, Parts: s.Parts, Path: s.Path[:n]})
	}
	more := noise(api.HashSize)
	l = append(l, api.Sig{Index: s.Index, Parts: append(copiedList(s.Parts), more), Path: s.Path})
	l = append(l, api.Sig{Index: s.Index, Parts: s.Parts, Path: append(copiedList(s.Path), more)})
	for _, n := range []int{0, 31, 33} {
		parts, path := copiedList(s.Parts), copiedList(s.Path)
		parts[places-1], path[api.Height-1] = noise(n), noise(n)
		l = append(l, api.Sig{Index: s.Index, Parts: parts, Path: s.Path}, api.Sig{Index: s.Index, Parts: s.Parts, Path: path})
	}
	return l
}

// wrongCosigs are what may not be laid down: by the Witness, by the signature, by both.
func wrongCosigs() []api.Cosig {
	right := unsigned(2, 3)
	l := []api.Cosig{{}}
	for _, witness := range noWitnesses {
		l = append(l, api.Cosig{Witness: witness, Sig: right.Sig}, api.Cosig{Witness: witness})
	}
	for _, sig := range wrongSigs(right.Sig) {
		l = append(l, api.Cosig{Witness: 2, Sig: sig}, api.Cosig{Sig: sig}, api.Cosig{Witness: 4, Sig: sig})
	}
	return l
}

// roomy tells b with room behind it, in which bytes stand.
func roomy(b []byte) []byte { return append(bytes.Clone(b), noise(50)...)[:len(b)] }

func copiedList(l [][]byte) [][]byte {
	out := make([][]byte, 0, len(l))
	for _, b := range l {
		out = append(out, bytes.Clone(b))
	}
	return out
}

// copied tells g in memory of its own.
func copied(g api.Cosig) api.Cosig {
	return api.Cosig{Witness: g.Witness, Sig: api.Sig{Index: g.Sig.Index, Parts: copiedList(g.Sig.Parts), Path: copiedList(g.Sig.Path)}}
}

func alike(a, b api.Cosig) bool {
	return a.Witness == b.Witness && a.Sig.Index == b.Sig.Index &&
		slices.EqualFunc(a.Sig.Parts, b.Sig.Parts, bytes.Equal) && slices.EqualFunc(a.Sig.Path, b.Sig.Path, bytes.Equal)
}

// isZero: is each field its zero value, a list empty?
func isZero(g api.Cosig) bool { return alike(g, api.Cosig{}) }

// is holds bytes against those that the document asks for.
func is(t *testing.T, name string, got, want []byte) {
	t.Helper()
	if !bytes.Equal(got, want) {
		t.Errorf("%s: %x, want %x", name, got, want)
	}
}

// cosigIs holds a cosignature against what the document asks for, in each field.
func cosigIs(t *testing.T, name string, got, want api.Cosig) {
	t.Helper()
	if !alike(got, want) {
		t.Errorf("%s: Witness %d, key %d, %d parts, %d hashes: not what it must be", name, got.Witness, got.Sig.Index, len(got.Sig.Parts), len(got.Sig.Path))
	}
}

// wantCosig tells what Sign must answer: the number, and the signature that package sign gives.
func wantCosig(t *testing.T, seed []byte, index, witness int, c api.Checkpoint) api.Cosig {
	t.Helper()
	sig, why := sign.Sign(seed, index, wantBody(c))
	if why != api.OK {
		t.Fatalf("P5.1: sign.Sign with key %d: %v", index, why)
	}
	return copied(api.Cosig{Witness: witness, Sig: sig})
}

// signed tells what the program signs: what it refuses ends the test.
func signed(t *testing.T, seed []byte, index, witness int, c api.Checkpoint) api.Cosig {
	t.Helper()
	g, why := cosign.Sign(seed, index, witness, c)
	if why != api.OK {
		t.Fatalf("P11.1: Sign with key %d of witness %d, Size %d: %v", index, witness, c.Size, why)
	}
	return g
}

// by tells what that witness signs of that Size under its own number.
func by(t *testing.T, witness, index, size int) api.Cosig {
	t.Helper()
	return signed(t, seedOf(witness), index, witness, point(size))
}

// renamed tells g under another witness's number.
func renamed(g api.Cosig, witness int) api.Cosig { return api.Cosig{Witness: witness, Sig: g.Sig} }
