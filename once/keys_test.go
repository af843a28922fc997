package once_test

import (
	"bytes"
	"crypto/sha256"
	"encoding/binary"
	"fmt"
	"math"
	"math/rand"
	"testing"

	"broadsheet/api"
	"broadsheet/hash"
	"broadsheet/once"
)

// The chapter's words written down once more, by the library's sums, for the program to be held against.

func tagged(tag byte, parts ...[]byte) []byte {
	sum := sha256.Sum256(append([]byte{tag}, bytes.Join(parts, nil)...))
	return sum[:]
}

func wantSecret(seed []byte, key uint32, bit, side byte) []byte {
	return tagged(10, seed, binary.BigEndian.AppendUint32(nil, key), []byte{bit, side})
}

func wantShown(seed []byte, key uint32, bit, side byte) []byte {
	return tagged(11, wantSecret(seed, key, bit, side))
}

func wantPublic(seed []byte, key uint32) []byte {
	var shown [][]byte
	for bit := range 32 {
		shown = append(shown, wantShown(seed, key, byte(bit), 0), wantShown(seed, key, byte(bit), 1))
	}
	return tagged(12, shown...)
}

// noise tells n bytes that are the same at each run.
func noise(n int) []byte {
	b := make([]byte, n)
	rand.New(rand.NewSource(int64(n) + 1)).Read(b)
	return b
}

// is holds bytes against those that the document asks for.
func is(t *testing.T, name string, got, want []byte) {
	t.Helper()
	if !bytes.Equal(got, want) {
		t.Errorf("%s: %x, want %x", name, got, want)
	}
}

// P4.1, P4.2: hashes that were worked out elsewhere.
func TestKnown(t *testing.T) {
	seed := []byte("some seed")
	for _, c := range []struct {
		name string
		got  []byte
		want string
	}{
		{"Secret(some seed, 3, 0, 0)", once.Secret(seed, 3, 0, 0), "5f2337b890be86d81e9fd48930d407db076673017c7b07483f4fc83c90dd1034"},
		{"Secret(some seed, 0x01020304, 5, 6)", once.Secret(seed, 0x01020304, 5, 6), "37a8cdceaf724b4788c0fa3d04ee8444ae016f111d905ae50846ff84fbcf7ed3"},
		{"Secret(nothing, 0, 0, 0)", once.Secret(nil, 0, 0, 0), "4a11975767396f39707a5c0a34d2f96f1369ca8fc8ffb6ea9e7376e6f4a8fb95"},
		{"Secret(nothing, -1, -1, -1)", once.Secret(nil, -1, -1, -1), "f0eeef4d8e50b17577a8bf4965f72d3b039e67735556dde039bd2c1b13e391f5"},
		{"Shown(some seed, 3, 31, 1)", once.Shown(seed, 3, 31, 1), "f9dc8daaf18987b31f0aa7c82774c36213e487807560d19f22d73e044683bcf8"},
		{"Public(some seed, 3)", once.Public(seed, 3), "a675d2982d3fa6c377888235e3b1d1abde9ca1496d77415d76effd414759f740"},
		{"Public(nothing, 0)", once.Public(nil, 0), "26439a8add9d919f5b7303df91f79e103c152a59b9c1ad5f07c1147d75437633"},
		{"Public(nothing, -1)", once.Public(nil, -1), "eb7f0eff1e1bc182c7c5d0b1f42e64a7a411a2b1cc5c0624e8d2ca688231755f"},
		{"Public(zeros, 15)", once.Public(make([]byte, api.SeedSize), 15), "c6247f80ff08dd8748d438516dbfa37b290b72c9b7b3636337a8d559a8318c30"},
		{"the parts of Sign(some seed, 3, abc)", hash.Sum(bytes.Join(once.Sign(seed, 3, []byte("abc")), nil)), "8d2b08cd9492a9755d273afa281cc04430351516784561ca9de46a84bbed76e6"},
	} {
		if got := fmt.Sprintf("%x", c.got); got != c.want {
			t.Errorf("P4.1, P4.2: %s: %s, want %s", c.name, got, c.want)
		}
	}
}

// P4.1: the digest's four bytes, the highest first.
func TestDigest(t *testing.T) {
	for _, c := range []struct {
		msg  string
		want uint32
	}{
		{"", 0x9d1e0e2d},
		{"m", 0x086d5735},
		{"abc", 0x90c72a6b},
		{"another one", 0x3b167102},
	} {
		if got := once.Digest([]byte(c.msg)); got != c.want {
			t.Errorf("P4.1: Digest(%q): %08x, want %08x", c.msg, got, c.want)
		}
	}
	for n := range 200 {
		msg := noise(n)
		if got, want := once.Digest(msg), binary.BigEndian.Uint32(tagged(13, msg)); got != want {
			t.Errorf("P4.1: Digest of %d bytes: %08x, want %08x", n, got, want)
		}
	}
	if once.Digest(nil) != once.Digest([]byte{}) || once.Digest(nil) != once.Digest(make([]byte, 0, 9)) {
		t.Error("R4: Digest of a nil and of an empty message")
	}
}

// P4.1: secrets of every bit and side that a byte can say, and of keys that use each of the four bytes.
func TestSecretAndShown(t *testing.T) {
	seed := noise(api.SeedSize)
	keys := []uint32{0, 1, 15, 255, 256, 1 << 16, 1 << 24, 0x01020304, 1<<31 - 1, 1 << 31, math.MaxUint32}
	for _, key := range keys {
		for bit := range 256 {
			for _, side := range []int{0, 1, 2, 128, 255} {
				name := fmt.Sprintf("key %d, bit %d, side %d", key, bit, side)
				is(t, "P4.1: Secret: "+name, once.Secret(seed, int(key), bit, side), wantSecret(seed, key, byte(bit), byte(side)))
				is(t, "P4.1: Shown: "+name, once.Shown(seed, int(key), bit, side), wantShown(seed, key, byte(bit), byte(side)))
			}
		}
	}
}

// P4.1: Public has every side of every bit, in order; keys and seeds stand apart.
func TestPublic(t *testing.T) {
	seen := map[string]string{}
	for _, seed := range [][]byte{nil, []byte("s"), noise(31), noise(32), noise(33)} {
		for _, key := range []uint32{0, 1, 3, 15, 16, 256, 1 << 24, math.MaxUint32} {
			name := fmt.Sprintf("seed of %d bytes, key %d", len(seed), key)
			got := once.Public(seed, int(key))
			is(t, "P4.1: Public: "+name, got, wantPublic(seed, key))
			if other, ok := seen[string(got)]; ok {
				t.Errorf("P4.1: one Public: %s and %s", name, other)
			}
			seen[string(got)] = name
		}
	}
}

// P4.1: of key, bit and side the lowest 32, 8 and 8 bits count alone, of numbers below zero too.
func TestLowestBits(t *testing.T) {
	seed := []byte("some seed")
	numbers := []int{0, 1, 7, 127, 128, 255, 256, 257, 1<<16 + 2, 1 << 31, 1<<32 - 1, 1 << 32, 1<<32 + 7, 1<<40 + 3, math.MaxInt - 1, math.MaxInt, -1, -2, -128, -129, -256, -257, -1 << 31, -1<<31 - 1, -1 << 32, math.MinInt, math.MinInt + 1}
	for _, n := range numbers {
		is(t, fmt.Sprint("P4.1: Secret: key ", n), once.Secret(seed, n, 3, 1), wantSecret(seed, uint32(n), 3, 1))
		is(t, fmt.Sprint("P4.1: Secret: bit ", n), once.Secret(seed, 7, n, 1), wantSecret(seed, 7, byte(n), 1))
		is(t, fmt.Sprint("P4.1: Secret: side ", n), once.Secret(seed, 7, 3, n), wantSecret(seed, 7, 3, byte(n)))
		is(t, fmt.Sprint("P4.1: Secret: all ", n), once.Secret(seed, n, n, n), wantSecret(seed, uint32(n), byte(n), byte(n)))
		is(t, fmt.Sprint("P4.1: Shown: key ", n), once.Shown(seed, n, 3, 1), wantShown(seed, uint32(n), 3, 1))
		is(t, fmt.Sprint("P4.1: Shown: bit ", n), once.Shown(seed, 7, n, 1), wantShown(seed, 7, byte(n), 1))
		is(t, fmt.Sprint("P4.1: Shown: side ", n), once.Shown(seed, 7, 3, n), wantShown(seed, 7, 3, byte(n)))
		is(t, fmt.Sprint("P4.1: Public: key ", n), once.Public(seed, n), wantPublic(seed, uint32(n)))
		is(t, fmt.Sprint("P4.2: Sign: key ", n), bytes.Join(once.Sign(seed, n, []byte("m")), nil), bytes.Join(once.Sign(seed, int(uint32(n)), []byte("m")), nil))
	}
}

// P4.1: each bit that counts is seen: no two of a key's, a bit's or a side's numbers have one secret.
func TestEachLowBitIsSeen(t *testing.T) {
	seed := []byte("some seed")
	seen := map[string]string{string(once.Secret(seed, 0, 0, 0)): "zeros"}
	apart := func(name string, secret []byte) {
		if other, ok := seen[string(secret)]; ok {
			t.Errorf("P4.1: one secret: %s and %s", name, other)
		}
		seen[string(secret)] = name
	}
	for i := range 32 {
		apart(fmt.Sprint("bit of key ", i), once.Secret(seed, 1<<i, 0, 0))
	}
	for n := 1; n < 256; n++ {
		apart(fmt.Sprint("bit ", n), once.Secret(seed, 0, n, 0))
		apart(fmt.Sprint("side ", n), once.Secret(seed, 0, 0, n))
	}
}

// P4.1: seeds of any length, each byte of which counts.
func TestSeedsOfAnyLength(t *testing.T) {
	for _, n := range []int{0, 1, 2, 31, 32, 33, 56, 57, 58, 63, 64, 65, 127, 128, 1000, api.MaxRecord, api.MaxRecord + 1} {
		seed := noise(n)
		is(t, fmt.Sprintf("P4.1: Secret: seed of %d bytes", n), once.Secret(seed, 9, 8, 1), wantSecret(seed, 9, 8, 1))
		is(t, fmt.Sprintf("P4.1: Shown: seed of %d bytes", n), once.Shown(seed, 9, 8, 1), wantShown(seed, 9, 8, 1))
	}
	for _, n := range []int{1, 31, 32, 33, 200} {
		for i := range n {
			turned := noise(n)
			turned[i] ^= 1
			if bytes.Equal(once.Secret(turned, 9, 8, 1), once.Secret(noise(n), 9, 8, 1)) {
				t.Errorf("P4.1: seed of %d bytes: byte %d does not count", n, i)
			}
		}
	}
}

// R4: nil and empty seeds are alike, the empty ones with room behind them too.
func TestNilAndEmptySeeds(t *testing.T) {
	for _, seed := range [][]byte{nil, {}, noise(9)[:0]} {
		is(t, "R4: Secret", once.Secret(seed, 1, 2, 1), wantSecret(nil, 1, 2, 1))
		is(t, "R4: Shown", once.Shown(seed, 1, 2, 1), wantShown(nil, 1, 2, 1))
		is(t, "R4: Public", once.Public(seed, 1), wantPublic(nil, 1))
		is(t, "R4: Sign", bytes.Join(once.Sign(seed, 1, nil), nil), bytes.Join(once.Sign(nil, 1, []byte{}), nil))
	}
}
