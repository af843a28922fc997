package once_test

import (
	"bytes"
	"slices"
	"testing"

	"broadsheet/api"
	"broadsheet/once"
)

// spoil writes over b and over the room behind it.
func spoil(b []byte) {
	b = b[:cap(b)]
	for i := range b {
		b[i] ^= 0xff
	}
}

// R2: seeds and messages are not changed, in their length or behind it.
func TestNothingIsChanged(t *testing.T) {
	for _, n := range []int{0, 1, 31, 32, 33, 64, 100} {
		seed, msg := noise(n+200), noise(n+300)
		parts := once.Sign(seed[:n], 3, msg[:n])
		once.Digest(msg[:n])
		once.Secret(seed[:n], 3, 2, 1)
		once.Shown(seed[:n], 3, 2, 1)
		once.Public(seed[:n], 3)
		once.Root(msg[:n], parts)
		if !bytes.Equal(seed, noise(n+200)) || !bytes.Equal(msg, noise(n+300)) {
			t.Errorf("R2: %d bytes: a seed, a message or the room behind it changed", n)
		}
	}
}

// roomy tells parts, each with room behind it, in a list with room behind it.
func roomy(parts [][]byte) [][]byte {
	list := make([][]byte, 0, len(parts)+3)
	for _, part := range parts {
		list = append(list, append(bytes.Clone(part), noise(50)...)[:len(part)])
	}
	behind := append(list, noise(7), noise(8), noise(9))
	return behind[:len(parts)]
}

// whole tells all bytes that a list of parts reaches, the room behind each and behind the list too.
func whole(parts [][]byte) []byte {
	var all []byte
	for _, part := range parts[:cap(parts)] {
		all = append(all, part[:cap(part)]...)
	}
	return all
}

// R2: parts that are handed in are not changed, taken or refused, in their length or behind it, and the list still has the same ones.
func TestRootChangesNothing(t *testing.T) {
	msg := []byte("m")
	sent := once.Sign(noise(32), 3, msg)
	short := slices.Clone(sent)
	short[places-1] = short[places-1][:31]
	for name, list := range map[string][][]byte{"taken": sent, "one too few": sent[:places-1], "one too short": short} {
		parts := roomy(list)
		before, firsts := whole(parts), slices.Clone(parts[:cap(parts)])
		got, ok := once.Root(msg, parts)
		spoil(got)
		if ok != (name == "taken") || !bytes.Equal(whole(parts), before) {
			t.Errorf("R2: Root: %s: %v, parts or the room behind them changed", name, ok)
		}
		for i, part := range parts[:cap(parts)] {
			if len(part) != len(firsts[i]) || &part[0] != &firsts[i][0] {
				t.Errorf("R2: Root: %s: the list has another part %d", name, i)
			}
		}
	}
}

// R2: what is behind the length of parts and of their list is not read.
func TestRootReadsNoRoom(t *testing.T) {
	msg, seed := []byte("m"), noise(32)
	is(t, "R2: Root of parts with room", rootIs(t, "parts with room", msg, roomy(once.Sign(seed, 3, msg))), once.Public(seed, 3))
}

// R2: what was given may be changed afterwards: no answer hangs on it any more.
func TestNothingIsKept(t *testing.T) {
	seed, msg := noise(32), noise(100)
	secret, shown, public := once.Secret(seed, 3, 2, 1), once.Shown(seed, 3, 2, 1), once.Public(seed, 3)
	parts := once.Sign(seed, 3, msg)
	sent := bytes.Join(parts, nil)
	root, _ := once.Root(msg, parts)
	spoil(seed)
	spoil(msg)
	is(t, "R2: Sign's parts", bytes.Join(parts, nil), sent)
	for _, part := range parts {
		spoil(part)
	}
	is(t, "R2: Secret", secret, wantSecret(noise(32), 3, 2, 1))
	is(t, "R2: Shown", shown, wantShown(noise(32), 3, 2, 1))
	is(t, "R2: Public", public, wantPublic(noise(32), 3))
	is(t, "R2: Root", root, wantPublic(noise(32), 3))
	is(t, "R2: Secret of a changed seed", once.Secret(seed, 3, 2, 1), wantSecret(seed, 3, 2, 1))
}

// R2, R4: who asked may write into answers, and into the room behind them: no later answer changes.
func TestAnswersAreNewMemory(t *testing.T) {
	seed, msg := noise(32), noise(100)
	sent := bytes.Join(once.Sign(seed, 3, msg), nil)
	for range 3 {
		secret, shown, public := once.Secret(seed, 3, 2, 1), once.Shown(seed, 3, 2, 1), once.Public(seed, 3)
		is(t, "R2: Secret", secret, wantSecret(seed, 3, 2, 1))
		is(t, "R2: Shown", shown, wantShown(seed, 3, 2, 1))
		is(t, "R2: Public", public, wantPublic(seed, 3))
		parts := once.Sign(seed, 3, msg)
		is(t, "R2: Sign", bytes.Join(parts, nil), sent)
		root := rootIs(t, "what was signed", msg, parts)
		is(t, "R2: Root", root, wantPublic(seed, 3))
		for _, answer := range append([][]byte{secret, shown, public, root}, parts...) {
			spoil(answer)
		}
		for i := range parts[:cap(parts)] {
			parts[:cap(parts)][i] = nil
		}
		is(t, "R2: the seed", seed, noise(32))
		is(t, "R2: the message", msg, noise(100))
	}
}

// R2: no two parts of one Sign share memory, the room behind them included: each is written over in turn, and the others stay.
func TestPartsShareNoMemory(t *testing.T) {
	for _, msg := range [][]byte{nil, []byte("m"), noise(100)} {
		want := once.Sign(noise(32), 3, msg)
		parts := once.Sign(noise(32), 3, msg)
		for place, part := range parts {
			spoil(part)
			_ = append(part, noise(api.HashSize)...)
			for i, other := range parts {
				if i != place && !bytes.Equal(other, want[i]) {
					t.Fatalf("R2: part %d written over: part %d changed", place, i)
				}
			}
			spoil(part)
			is(t, "R2: a part written over twice", part, want[place])
		}
		two := once.Sign(noise(32), 3, msg)
		for _, part := range parts {
			spoil(part)
		}
		is(t, "R2: another Sign's parts", bytes.Join(two, nil), bytes.Join(want, nil))
	}
}
