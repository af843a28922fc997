package check_test

import (
	"bytes"
	"fmt"
	"slices"
	"testing"

	"broadsheet/api"
	"broadsheet/check"
)

// P10.1: each Size that may be, and none else.
func TestRightOfSizes(t *testing.T) {
	for size := -300; size <= 600; size++ {
		if got, want := check.Right(point(size)), 0 <= size && size <= api.MaxLeaves; got != want {
			t.Errorf("P10.1: Right of Size %d: %v", size, got)
		}
	}
	for _, size := range sizes {
		if !check.Right(point(size)) {
			t.Errorf("P10.1: Right of Size %d: false", size)
		}
	}
	for _, size := range noSizes {
		if check.Right(point(size)) {
			t.Errorf("P10.1: Right of Size %d: true", size)
		}
	}
}

// P10.1, R4, R5: a Root has HashSize bytes: the room behind it does not count.
func TestRightOfRoots(t *testing.T) {
	for _, size := range sizes {
		for n := range 300 {
			for _, root := range [][]byte{noise(n), noise(400)[:n], roomy(noise(n))} {
				if got := check.Right(api.Checkpoint{Size: size, Root: root}); got != (n == api.HashSize) {
					t.Errorf("P10.1: Right of Size %d and a Root of %d bytes: %v", size, n, got)
				}
			}
		}
		for _, root := range [][]byte{nil, {}, noise(api.HashSize)[:0]} {
			if check.Right(api.Checkpoint{Size: size, Root: root}) {
				t.Errorf("P10.1: Right of Size %d and no Root", size)
			}
		}
	}
	if !check.Right(api.Checkpoint{Root: make([]byte, api.HashSize)}) {
		t.Error("P10.1: Right of a Root of zeros: the form alone is asked")
	}
	if check.Right(api.Checkpoint{}) {
		t.Error("P10.1: Right of a zero checkpoint")
	}
}

// P10.1: the letters, the Size as four bytes the highest first, the Root; of each Size that may be.
func TestBody(t *testing.T) {
	for size := range api.MaxLeaves + 1 {
		c := point(size)
		number := []byte{0, 0, byte(size / 256), byte(size % 256)}
		want := slices.Concat([]byte("broadsheet check"), number, c.Root)
		is(t, fmt.Sprintf("P10.1: Body of Size %d", size), check.Body(c), want)
		c.Root = roomy(c.Root)
		is(t, fmt.Sprintf("P10.1: Body of Size %d, the Root with room", size), check.Body(c), want)
	}
	if got := len(check.Body(point(1))); got != 16+4+32 {
		t.Errorf("P10.1: Body has %d bytes", got)
	}
}

// P10.1: the Root's bytes stand as they are, whatever they are.
func TestBodyOfRoots(t *testing.T) {
	for b := range 256 {
		c := api.Checkpoint{Size: 258 - 3, Root: bytes.Repeat([]byte{byte(b)}, api.HashSize)}
		is(t, fmt.Sprintf("P10.1: Body of a Root of bytes %d", b), check.Body(c), wantBody(c))
		c.Root = noise(100 + b)[:api.HashSize]
		is(t, fmt.Sprintf("P10.1: Body of any Root %d", b), check.Body(c), wantBody(c))
	}
}

// P10.1: of what is not right: nothing.
func TestBodyOfWhatIsNotRight(t *testing.T) {
	for i, c := range notRight() {
		if wantRight(c) {
			t.Fatalf("case %d: the test holds it for what is not right", i)
		}
		if b := check.Body(c); len(b) > 0 || check.Right(c) {
			t.Errorf("P10.1: Size %d, a Root of %d bytes: Body of %d bytes, Right %v", c.Size, len(c.Root), len(b), check.Right(c))
		}
	}
}

// sameIs holds Same's answer, asked both ways, against what the document asks for.
func sameIs(t *testing.T, name string, a, b api.Checkpoint, want bool) {
	t.Helper()
	if check.Same(a, b) != want || check.Same(b, a) != want {
		t.Errorf("P10.1: Same: %s: %v and %v, want %v", name, check.Same(a, b), check.Same(b, a), want)
	}
}

// P10.1: Size and Root alike, and each of them unlike in turn.
func TestSame(t *testing.T) {
	all := append(slices.Clone(sizes), noSizes...)
	for i, first := range all {
		for j, second := range all {
			sameIs(t, fmt.Sprintf("Sizes %d and %d", first, second), point(first), point(second), i == j)
			other := point(second)
			other.Root[31] ^= 1
			sameIs(t, fmt.Sprintf("Sizes %d and %d, other Roots", first, second), point(first), other, false)
		}
	}
	for bit := range 8 * api.HashSize {
		c := point(5)
		c.Root[bit/8] ^= 1 << (bit % 8)
		sameIs(t, fmt.Sprintf("bit %d of the Root", bit), point(5), c, false)
	}
	for bit := range 63 {
		sameIs(t, fmt.Sprintf("bit %d of the Size", bit), point(5), point(5^1<<bit), false)
	}
}

// P10.1, R4, R5: Roots of each length, nil and empty ones, with room or without.
func TestSameOfRoots(t *testing.T) {
	for n := range 70 {
		long := noise(100)
		a := api.Checkpoint{Size: 5, Root: long[:n]}
		sameIs(t, fmt.Sprintf("a Root of %d bytes and a copy", n), a, api.Checkpoint{Size: 5, Root: bytes.Clone(long[:n])}, true)
		sameIs(t, fmt.Sprintf("a Root of %d bytes and one with other room", n), a, api.Checkpoint{Size: 5, Root: roomy(long[:n])}, true)
		sameIs(t, fmt.Sprintf("a Root of %d bytes and one more", n), a, api.Checkpoint{Size: 5, Root: long[:n+1]}, false)
		sameIs(t, fmt.Sprintf("a Root of %d bytes and a zero more", n), a, api.Checkpoint{Size: 5, Root: append(bytes.Clone(long[:n]), 0)}, false)
		sameIs(t, fmt.Sprintf("Roots of %d bytes, another Size", n), a, api.Checkpoint{Size: 6, Root: long[:n]}, false)
	}
	for _, first := range [][]byte{nil, {}, noise(40)[:0]} {
		for _, second := range [][]byte{nil, {}, noise(41)[:0]} {
			for _, size := range append(slices.Clone(sizes), noSizes...) {
				sameIs(t, fmt.Sprintf("Size %d, no Roots", size), api.Checkpoint{Size: size, Root: first}, api.Checkpoint{Size: size, Root: second}, true)
			}
			sameIs(t, "other Sizes, no Roots", api.Checkpoint{Root: first}, api.Checkpoint{Size: 1, Root: second}, false)
		}
		sameIs(t, "a Root and none", api.Checkpoint{Size: 5, Root: first}, point(5), false)
	}
	sameIs(t, "zero ones", api.Checkpoint{}, api.Checkpoint{}, true)
}

// P10.1: those that are not right are the same, too, where they are alike.
func TestSameOfWhatIsNotRight(t *testing.T) {
	for i, c := range notRight() {
		sameIs(t, fmt.Sprintf("case %d and itself", i), c, c, true)
		sameIs(t, fmt.Sprintf("case %d and a copy", i), c, api.Checkpoint{Size: c.Size, Root: bytes.Clone(c.Root)}, true)
		sameIs(t, fmt.Sprintf("case %d and a right one", i), c, point(5), false)
	}
}
