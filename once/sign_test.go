package once_test

import (
	"bytes"
	"fmt"
	"math"
	"slices"
	"testing"

	"broadsheet/api"
	"broadsheet/once"
)

const places = 2 * api.Bits

// isSecret: does msg's digest say that the part at this place is a secret?
func isSecret(msg []byte, place int) bool {
	digest := tagged(13, msg)
	bit := place / 2
	return int(digest[bit/8]>>(7-bit%8)&1) == place%2
}

// wantRoot tells by the chapter's words what Root of parts is that are well formed.
func wantRoot(msg []byte, parts [][]byte) []byte {
	shown := slices.Clone(parts)
	for place := range shown {
		if isSecret(msg, place) {
			shown[place] = tagged(11, parts[place])
		}
	}
	return tagged(12, shown...)
}

// rootIs holds Root's answer against the chapter's words, and tells it.
func rootIs(t *testing.T, name string, msg []byte, parts [][]byte) []byte {
	t.Helper()
	got, ok := once.Root(msg, parts)
	if want := wantRoot(msg, parts); !ok || !bytes.Equal(got, want) {
		t.Errorf("P4.2: Root of %s: %x, %v, want %x", name, got, ok, want)
	}
	return got
}

// refused holds Root's answer against none.
func refused(t *testing.T, name string, parts [][]byte) {
	t.Helper()
	if got, ok := once.Root([]byte("m"), parts); ok || got != nil {
		t.Errorf("P4.2, R3: Root of %s: %x, %v", name, got, ok)
	}
}

// P4.3: the chapter's run, and other keys, seeds and messages.
func TestRootOfSignIsPublic(t *testing.T) {
	seed, msg := []byte("some seed"), []byte("some message")
	got, ok := once.Root(msg, once.Sign(seed, 3, msg))
	if !ok || !bytes.Equal(got, once.Public(seed, 3)) {
		t.Errorf("P4.3: %x, %v, want %x", got, ok, once.Public(seed, 3))
	}
	for _, n := range []int{0, 1, 31, 32, 33, 64, 300} {
		seed := noise(n)
		for _, key := range []int{0, 1, 15, 16, -1, 1 << 32, math.MinInt, math.MaxInt} {
			public := once.Public(seed, key)
			for m := range 5 {
				msg := noise(m * n)
				got, ok := once.Root(msg, once.Sign(seed, key, msg))
				if !ok || !bytes.Equal(got, public) {
					t.Errorf("P4.3: seed of %d bytes, key %d, message of %d: %x, %v, want %x", n, key, m*n, got, ok, public)
				}
			}
		}
	}
}

// P4.2: of each bit the side that the digest has shows its secret, the other one its Shown; messages go on until each bit was seen with both values.
func TestWhichSideShowsItsSecret(t *testing.T) {
	seed := noise(api.SeedSize)
	seen := map[int]int{}
	for n := 0; n < 40 || len(seen) < places; n++ {
		if n == 1000 {
			t.Fatal("not every bit was seen with both values")
		}
		msg := []byte(fmt.Sprint("message ", n))
		parts := once.Sign(seed, 5, msg)
		if len(parts) != places {
			t.Fatalf("P4.2: Sign: %d parts", len(parts))
		}
		for place, part := range parts {
			bit, side := byte(place/2), byte(place%2)
			want, kind := wantShown(seed, 5, bit, side), "Shown"
			if isSecret(msg, place) {
				want, kind = wantSecret(seed, 5, bit, side), "Secret"
				seen[place]++
			}
			if !bytes.Equal(part, want) {
				t.Errorf("P4.2: %q: the part of bit %d, side %d is not its %s", msg, bit, side, kind)
			}
		}
	}
}

// P4.2: just one secret a bit is given away.
func TestOneSecretABit(t *testing.T) {
	seed := noise(api.SeedSize)
	for n := range 50 {
		parts := once.Sign(seed, n, noise(n))
		for bit := range api.Bits {
			zero := bytes.Equal(parts[2*bit], once.Secret(seed, n, bit, 0))
			one := bytes.Equal(parts[2*bit+1], once.Secret(seed, n, bit, 1))
			if zero == one {
				t.Errorf("P4.2: key %d, bit %d: secrets shown: side 0 %v, side 1 %v", n, bit, zero, one)
			}
		}
	}
}

// P4.2, R4: who signs twice gets the same, whatever was asked between.
func TestSignTwice(t *testing.T) {
	seed := noise(api.SeedSize)
	for _, msg := range [][]byte{nil, []byte("m"), noise(1000)} {
		first := once.Sign(seed, 3, msg)
		once.Sign(seed, 4, msg)
		once.Sign(noise(5), 3, noise(6))
		once.Root(msg, first)
		if !slices.EqualFunc(first, once.Sign(seed, 3, msg), bytes.Equal) {
			t.Errorf("P4.2: message of %d bytes: signed twice, unlike", len(msg))
		}
	}
	for _, empty := range [][]byte{nil, {}, noise(9)[:0]} {
		if !slices.EqualFunc(once.Sign(seed, 3, nil), once.Sign(seed, 3, empty), bytes.Equal) {
			t.Error("R4: Sign of a nil and of an empty message")
		}
		is(t, "R4: Root of a nil and of an empty message", rootIs(t, "an empty message", empty, once.Sign(seed, 3, nil)), once.Public(seed, 3))
	}
}

// P4.2: too few or too many parts are refused, however they look.
func TestRootCountsParts(t *testing.T) {
	parts := once.Sign(noise(32), 3, []byte("m"))
	refused(t, "nil", nil)
	refused(t, "an empty list", [][]byte{})
	refused(t, "an empty list with room", parts[:0])
	for n := range places {
		refused(t, fmt.Sprint(n, " parts with the others in the room behind"), parts[:n])
		refused(t, fmt.Sprint(n, " last parts"), parts[places-n:])
		refused(t, fmt.Sprint(n, " parts"), slices.Clone(parts[:n]))
	}
	for n := 1; n < 3; n++ {
		refused(t, fmt.Sprint(n, " too many"), append(slices.Clone(parts), parts[:n]...))
	}
	refused(t, "one too many that is nil", append(slices.Clone(parts), nil))
	refused(t, "twice as many", append(slices.Clone(parts), parts...))
	refused(t, "half as many, each twice as long", doubled(parts))
	refused(t, "as many that are nil", make([][]byte, places))
}

// doubled tells two parts as one, so that there are half as many of the same bytes.
func doubled(parts [][]byte) [][]byte {
	var out [][]byte
	for i := 0; i < len(parts); i += 2 {
		out = append(out, slices.Concat(parts[i], parts[i+1]))
	}
	return out
}

// P4.2: a part that has not a hash's size is refused, wherever it stands, be it a secret or not.
func TestRootMeasuresParts(t *testing.T) {
	parts := once.Sign(noise(32), 3, []byte("m"))
	for place := range places {
		for _, size := range []int{0, 1, 31, 33, 64} {
			wrong := slices.Clone(parts)
			wrong[place] = slices.Concat(parts[place], parts[place])[:size] // the rest is spare room, and not to be read
			refused(t, fmt.Sprintf("part %d with %d bytes", place, size), wrong)
		}
		wrong := slices.Clone(parts)
		wrong[place] = nil
		refused(t, fmt.Sprintf("part %d is nil", place), wrong)
	}
	for place := range places - 1 {
		wrong := slices.Clone(parts)
		all := slices.Concat(parts[place], parts[place+1])
		wrong[place], wrong[place+1] = all[:31], all[31:]
		refused(t, fmt.Sprintf("parts %d and %d, parted a byte too early", place, place+1), wrong)
	}
}

// P4.2: a part that was turned, in any of its bits, is told by another root.
func TestTurnedParts(t *testing.T) {
	seed, msg := noise(32), []byte("m")
	public := once.Public(seed, 3)
	parts := once.Sign(seed, 3, msg)
	for place := range places {
		for bit := range 8 * api.HashSize {
			turned := slices.Clone(parts)
			turned[place] = bytes.Clone(parts[place])
			turned[place][bit/8] ^= 1 << (bit % 8)
			got, ok := once.Root(msg, turned)
			if !ok || bytes.Equal(got, public) {
				t.Fatalf("P4.2: part %d, bit %d turned: %x, %v", place, bit, got, ok)
			}
			if bit%51 == 0 {
				rootIs(t, fmt.Sprintf("part %d, bit %d turned", place, bit), msg, turned)
			}
		}
	}
}

// P4.2: whole parts that are others' are told too: the other one of their bit, a neighbour's, that of another key, and what is shown of them or hidden.
func TestPartsOfOthers(t *testing.T) {
	seed, msg := noise(32), []byte("m")
	public := once.Public(seed, 3)
	parts := once.Sign(seed, 3, msg)
	other := once.Sign(seed, 4, msg)
	for place := range places {
		bit, side := place/2, place%2
		for name, part := range map[string][]byte{
			"the other side's":   parts[place^1],
			"the next bit's":     parts[(place+2)%places],
			"another key's":      other[place],
			"hashed once more":   tagged(11, parts[place]),
			"zeros":              make([]byte, api.HashSize),
			"the other of both":  theOther(isSecret(msg, place), seed, 3, bit, side),
			"reversed in itself": reversed(parts[place]),
		} {
			turned := slices.Clone(parts)
			turned[place] = part
			if got := rootIs(t, fmt.Sprintf("part %d is %s", place, name), msg, turned); bytes.Equal(got, public) {
				t.Errorf("P4.2: part %d is %s: Root is Public", place, name)
			}
		}
	}
	backwards := slices.Clone(parts)
	slices.Reverse(backwards)
	if got := rootIs(t, "parts backwards", msg, backwards); bytes.Equal(got, public) {
		t.Error("P4.2: parts backwards: Root is Public")
	}
}

// theOther tells the Shown where a secret is due, and the secret where it is not.
func theOther(secretIsDue bool, seed []byte, key, bit, side int) []byte {
	if secretIsDue {
		return once.Shown(seed, key, bit, side)
	}
	return once.Secret(seed, key, bit, side)
}

func reversed(b []byte) []byte {
	out := bytes.Clone(b)
	slices.Reverse(out)
	return out
}

// P4.2: any parts of the right size have a root, whether somebody signed them or not.
func TestRootOfAnyParts(t *testing.T) {
	for n := range 50 {
		all := noise(places*api.HashSize + n)[n:]
		var parts [][]byte
		for place := range places {
			parts = append(parts, all[place*api.HashSize:(place+1)*api.HashSize])
		}
		rootIs(t, "noise", noise(n), parts)
	}
	one := noise(api.HashSize)
	rootIs(t, "one part at all places", []byte("m"), slices.Repeat([][]byte{one}, places))
}

// P4.2: the root of another message is another one, unless its digest is the same.
func TestRootOfAnotherMessage(t *testing.T) {
	seed := noise(32)
	public := once.Public(seed, 3)
	for n := range 100 {
		msg, other := []byte(fmt.Sprint("message ", n)), []byte(fmt.Sprint("message ", n+1))
		parts := once.Sign(seed, 3, msg)
		if got := rootIs(t, "another message", other, parts); bytes.Equal(got, public) != (once.Digest(msg) == once.Digest(other)) {
			t.Errorf("P4.2: %q signed, %q asked: %x", msg, other, got)
		}
	}
}
