package hash_test

import (
	"bytes"
	"crypto/sha256"
	"encoding/hex"
	"fmt"
	"math/rand"
	"strings"
	"testing"

	"broadsheet/api"
	"broadsheet/hash"
)

// noise tells n bytes that are the same at each run.
func noise(n int) []byte {
	b := make([]byte, n)
	rand.New(rand.NewSource(int64(n) + 1)).Read(b)
	return b
}

// sumsRight holds Sum(b) against the library's.
func sumsRight(t *testing.T, name string, b []byte) {
	t.Helper()
	want := sha256.Sum256(b)
	if got := hash.Sum(b); !bytes.Equal(got, want[:]) {
		t.Errorf("P2.1: Sum of %s: %x, want %x", name, got, want)
	}
}

// P2.1: sums that are written down elsewhere.
func TestSumKnown(t *testing.T) {
	for _, c := range []struct{ text, want string }{
		{"", "e3b0c44298fc1c149afbf4c8996fb92427ae41e4649b934ca495991b7852b855"},
		{"abc", "ba7816bf8f01cfea414140de5dae2223b00361a396177a9cb410ff61f20015ad"},
		{"\x00", "6e340b9cffb37a989ca544e6bb780a2c78901d3fb33738768511a30617afa01d"},
		{"\xbd", "68325720aabd7c82f30f554b313d0570c95accbb7dc4b5aae11204c08ffe732b"},
		{"abcdbcdecdefdefgefghfghighijhijkijkljklmklmnlmnomnopnopq", "248d6a61d20638b8e5c026930c3e6039a33ce45964ff2167f6ecedd419db06c1"},
		{"abcdefghbcdefghicdefghijdefghijkefghijklfghijklmghijklmnhijklmnoijklmnopjklmnopqklmnopqrlmnopqrsmnopqrstnopqrstu", "cf5b16a778af8380036ce59e7b0492370b249b11e8f07a51afac45037afee9d1"},
		{strings.Repeat("a", 1000000), "cdc76e5c9914fb9281a1c7e284d73e67f1809a48a497200e046d39ccc7112cd0"},
	} {
		if got := hash.Hex(hash.Sum([]byte(c.text))); got != c.want {
			t.Errorf("P2.1: Sum of %d bytes: %s, want %s", len(c.text), got, c.want)
		}
	}
}

// P2.1, R1, R4: nothing has a sum too, be it nil or empty.
func TestSumOfNothing(t *testing.T) {
	for _, b := range [][]byte{nil, {}, make([]byte, 0, 100)} {
		if got := hash.Hex(hash.Sum(b)); !strings.HasPrefix(got, "e3b0c442") || len(got) != 2*api.HashSize {
			t.Errorf("P2.1: Sum of nothing: %s", got)
		}
	}
}

// P2.1: every length up to some blocks, so each bound of a block and of its padding (55, 56, 63, 64, 65, 119, 120, 127, 128 ..).
func TestSumAtEachLength(t *testing.T) {
	for n := range 5*64 + 2 {
		sumsRight(t, fmt.Sprintf("%d zeros", n), make([]byte, n))
		sumsRight(t, fmt.Sprintf("%d bytes 255", n), bytes.Repeat([]byte{255}, n))
		sumsRight(t, fmt.Sprintf("%d bytes", n), noise(n))
	}
}

// P2.1: long texts, so that each of the lower bytes of the count of bits is used.
func TestSumOfLongTexts(t *testing.T) {
	for _, n := range []int{1 << 10, 1<<13 - 1, 1 << 13, 1<<13 + 1, api.MaxRecord - 1, api.MaxRecord, api.MaxRecord + 1, api.MaxDisk, 1<<21 - 1, 1 << 21, 1<<21 + 55, 1<<21 + 56} {
		sumsRight(t, fmt.Sprintf("%d bytes", n), noise(n))
	}
}

// P2.1: each of a block's bits is seen, in a whole block and in a padded one.
func TestSumSeesEachBit(t *testing.T) {
	for _, n := range []int{55, 64} {
		seen := map[string]int{string(hash.Sum(make([]byte, n))): -1}
		for bit := range 8 * n {
			b := make([]byte, n)
			b[bit/8] = 1 << (bit % 8)
			sumsRight(t, fmt.Sprintf("%d bytes with bit %d", n, bit), b)
			sum := string(hash.Sum(b))
			if other, ok := seen[sum]; ok {
				t.Errorf("P2.1: %d bytes: bits %d and %d have one sum", n, other, bit)
			}
			seen[sum] = bit
		}
	}
}

// P2.1: the tag alone.
func TestTaggedWithoutParts(t *testing.T) {
	if !bytes.Equal(hash.Tagged(0), hash.Sum([]byte{0})) {
		t.Error("P2.1: Tagged(0) is not Sum of one zero byte")
	}
	for tag := range 256 {
		want := sha256.Sum256([]byte{byte(tag)})
		for name, got := range map[string][]byte{
			"no part":           hash.Tagged(byte(tag)),
			"a nil list":        hash.Tagged(byte(tag), [][]byte(nil)...),
			"an empty list":     hash.Tagged(byte(tag), [][]byte{}...),
			"a nil part":        hash.Tagged(byte(tag), nil),
			"an empty part":     hash.Tagged(byte(tag), []byte{}),
			"nil, empty, empty": hash.Tagged(byte(tag), nil, []byte{}, make([]byte, 0, 9)),
		} {
			if !bytes.Equal(got, want[:]) {
				t.Errorf("P2.1: Tagged(%d) of %s: %x, want %x", tag, name, got, want)
			}
		}
	}
}

// P2.1: where the parts part is not seen, and the tag stands ahead of them all, once.
func TestTaggedPartedAnywhere(t *testing.T) {
	for _, n := range []int{1, 2, 54, 55, 62, 63, 64, 130} {
		text := noise(n)
		want := hash.Sum(append([]byte{7}, text...))
		for k := range n + 1 {
			for name, got := range map[string][]byte{
				"two parts":              hash.Tagged(7, text[:k], text[k:]),
				"a nil between":          hash.Tagged(7, text[:k], nil, text[k:]),
				"nothing at either end":  hash.Tagged(7, []byte{}, text[:k], text[k:], nil),
				"three parts, one a one": hash.Tagged(7, text[:k], text[k:min(k+1, n)], text[min(k+1, n):]),
			} {
				if !bytes.Equal(got, want) {
					t.Errorf("P2.1: %d bytes parted at %d, %s: %x, want %x", n, k, name, got, want)
				}
			}
		}
	}
}

// P2.1: tag and parts in their order.
func TestTaggedOrder(t *testing.T) {
	a, b := []byte("ab"), []byte("cd")
	want := sha256.Sum256([]byte("Tabcd"))
	if !bytes.Equal(hash.Tagged('T', a, b), want[:]) || bytes.Equal(hash.Tagged('T', b, a), want[:]) || bytes.Equal(hash.Tagged('U', a, b), want[:]) {
		t.Error("P2.1: Tagged: the order")
	}
	var one [][]byte
	for i := range 300 {
		one = append(one, []byte{byte(i)})
	}
	want = sha256.Sum256(append([]byte{9}, bytes.Join(one, nil)...))
	if !bytes.Equal(hash.Tagged(9, one...), want[:]) {
		t.Error("P2.1: Tagged of 300 parts")
	}
	want = sha256.Sum256([]byte("Tabab"))
	if !bytes.Equal(hash.Tagged('T', a, a), want[:]) {
		t.Error("P2.1: Tagged of one part twice")
	}
}

// P2.1: the same bytes, and as many.
func TestSame(t *testing.T) {
	for _, c := range []struct {
		a, b []byte
		want bool
	}{
		{nil, nil, true},
		{nil, []byte{}, true},
		{[]byte{}, []byte{}, true},
		{nil, make([]byte, 0, 5), true},
		{nil, []byte{0}, false},
		{[]byte{}, []byte{0}, false},
		{[]byte{1}, []byte{1}, true},
		{[]byte{1}, []byte{2}, false},
		{[]byte{1}, []byte{1, 0}, false},
		{[]byte{1, 2}, []byte{2, 1}, false},
		{[]byte{0, 0}, []byte{0, 0, 0}, false},
		{[]byte("abc"), append(make([]byte, 0, 50), "abc"...), true},
		{[]byte{1, 9}[:1], []byte{1, 8}[:1], true},
	} {
		if hash.Same(c.a, c.b) != c.want || hash.Same(c.b, c.a) != c.want {
			t.Errorf("P2.1: Same(%v, %v) is not %v", c.a, c.b, c.want)
		}
	}
}

// P2.1: one bit anywhere, or the last byte gone, is told.
func TestSameSeesEachBit(t *testing.T) {
	a := noise(api.HashSize)
	if !hash.Same(a, bytes.Clone(a)) || !hash.Same(a, a) || hash.Same(a, a[:len(a)-1]) || hash.Same(a, a[1:]) {
		t.Error("P2.1: Same of a hash")
	}
	for bit := range 8 * len(a) {
		b := bytes.Clone(a)
		b[bit/8] ^= 1 << (bit % 8)
		if hash.Same(a, b) || hash.Same(b, a) {
			t.Errorf("P2.1: Same does not see bit %d", bit)
		}
	}
}

// P2.1: two signs a byte, small letters, in order.
func TestHex(t *testing.T) {
	if hash.Hex(nil) != "" || hash.Hex([]byte{}) != "" || hash.Hex(make([]byte, 0, 4)) != "" {
		t.Error("P2.1: Hex of nothing")
	}
	if got := hash.Hex([]byte{0, 1, 15, 16, 0x9a, 0xa9, 0xbc, 0xde, 0xf0, 255}); got != "00010f109aa9bcdef0ff" {
		t.Errorf("P2.1: Hex: %s", got)
	}
	var all []byte
	for x := range 256 {
		all = append(all, byte(x))
		if got, want := hash.Hex([]byte{byte(x)}), fmt.Sprintf("%02x", x); got != want {
			t.Errorf("P2.1: Hex of %d: %s, want %s", x, got, want)
		}
	}
	if hash.Hex(all) != hex.EncodeToString(all) {
		t.Error("P2.1: Hex of every byte")
	}
}

// R2: nothing that is handed in is changed, in its length or behind it.
func TestNothingIsChanged(t *testing.T) {
	for _, n := range []int{0, 1, 3, 55, 56, 63, 64, 65, 127, 128, 200} {
		full := noise(n + 200)
		before := bytes.Clone(full)
		parts := [][]byte{full[:n], full[:n/2], {9}, full[:0]}
		hash.Sum(full[:n])
		hash.Tagged(1, full[:n])
		hash.Tagged(1, parts[:2]...)
		hash.Same(full[:n], full[:n/2])
		hash.Hex(full[:n])
		if !bytes.Equal(full, before) {
			t.Errorf("R2: %d bytes: the bytes or the room behind them changed", n)
		}
		if len(parts[0]) != n || len(parts[1]) != n/2 || !bytes.Equal(parts[2], []byte{9}) || len(parts[3]) != 0 || n > 0 && &parts[0][0] != &full[0] {
			t.Errorf("R2: %d bytes: the list of parts or the room behind it changed", n)
		}
	}
}

// spoil writes over b and over the room behind it.
func spoil(b []byte) {
	b = b[:cap(b)]
	for i := range b {
		b[i] ^= 0xff
	}
}

// R2: who asked may write into an answer, and into the room behind it: neither what was given nor a later or an earlier answer changes.
func TestAnswersAreNewMemory(t *testing.T) {
	for _, n := range []int{0, 3, 32, 64, 100} {
		text := noise(n)
		before := bytes.Clone(text)
		wantSum, wantTagged := sha256.Sum256(text), sha256.Sum256(append([]byte{0}, text...))
		kept := hash.Sum(text)
		for range 3 {
			sum, tagged := hash.Sum(text), hash.Tagged(0, text)
			if !bytes.Equal(sum, wantSum[:]) || !bytes.Equal(tagged, wantTagged[:]) {
				t.Errorf("R2: %d bytes: an answer changed", n)
			}
			spoil(sum)
			spoil(tagged)
		}
		if !bytes.Equal(kept, wantSum[:]) || !bytes.Equal(text, before) {
			t.Errorf("R2: %d bytes: what was given or answered changed", n)
		}
	}
}

// R2: what was given may be changed afterwards.
func TestNothingIsKept(t *testing.T) {
	text := noise(100)
	want := sha256.Sum256(text)
	sum, signs := hash.Sum(text), hash.Hex(text)
	wantSigns := hex.EncodeToString(text)
	spoil(text)
	if !bytes.Equal(sum, want[:]) || signs != wantSigns {
		t.Error("R2: an answer hangs on what was given before")
	}
	sumsRight(t, "what was changed", text)
}

// R4: answers hang on what is given alone, whatever was asked between.
func TestAnswersStay(t *testing.T) {
	for n := range 130 {
		text := noise(n)
		first := hash.Sum(text)
		hash.Sum(noise(n + 1))
		hash.Tagged(byte(n), text, text)
		if !bytes.Equal(first, hash.Sum(text)) || !bytes.Equal(first, hash.Sum(append(make([]byte, 0, 500), text...))) {
			t.Errorf("R4: %d bytes: two sums", n)
		}
	}
}
