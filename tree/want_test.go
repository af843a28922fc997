package tree_test

import (
	"bytes"
	"crypto/sha256"
	"fmt"
	"math/rand"
	"testing"
)

// The chapter's words written down once more, by the library's sums, for the program to be held against.

func sum(parts ...[]byte) []byte {
	s := sha256.Sum256(bytes.Join(parts, nil))
	return s[:]
}

func wantLeaf(b []byte) []byte { return sum([]byte{0}, b) }

func wantNode(left, right []byte) []byte { return sum([]byte{1}, left, right) }

// wantRoot tells the root leaf for leaf, by the tops of whole trees: the program goes by halves. A leaf joins as many of them as its number ends in set bits; those that are left over are joined from the last one on.
func wantRoot(leaves [][]byte) []byte {
	if len(leaves) == 0 {
		return sum()
	}
	var tops [][]byte
	for n, leaf := range leaves {
		top := leaf
		for n%2 == 1 {
			top = wantNode(tops[len(tops)-1], top)
			tops = tops[:len(tops)-1]
			n /= 2
		}
		tops = append(tops, top)
	}
	root := tops[len(tops)-1]
	for i := len(tops) - 2; i >= 0; i-- {
		root = wantNode(tops[i], root)
	}
	return root
}

// noise tells n bytes that are the same at each run.
func noise(n int) []byte {
	b := make([]byte, n)
	rand.New(rand.NewSource(int64(n) + 1)).Read(b)
	return b
}

// leafHashes tells n leaves, no two alike.
func leafHashes(n int) [][]byte {
	l := make([][]byte, 0, n)
	for i := range n {
		l = append(l, wantLeaf([]byte(fmt.Sprint("leaf ", i))))
	}
	return l
}

// is holds bytes against those that the document asks for.
func is(t *testing.T, name string, got, want []byte) {
	t.Helper()
	if !bytes.Equal(got, want) {
		t.Errorf("%s: %x, want %x", name, got, want)
	}
}
