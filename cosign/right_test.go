package cosign_test

import (
	"bytes"
	"fmt"
	"math"
	"slices"
	"testing"

	"broadsheet/api"
	"broadsheet/check"
	"broadsheet/cosign"
)

// rightIs holds Right's answer against what the test knows ahead, and that against the chapter's words.
func rightIs(t *testing.T, name string, p api.Policy, want bool) {
	t.Helper()
	if wantRight(p) != want {
		t.Fatalf("%s: the test does not hold it for what it is", name)
	}
	if got := cosign.Right(p); got != want {
		t.Errorf("P11.1: Right: %s: %v", name, got)
	}
}

// P11.1: each number of Witnesses with each Quorum around it, and with the least and the greatest.
func TestRightOfCounts(t *testing.T) {
	for n := range 9 {
		for quorum := -3; quorum < 12; quorum++ {
			want := 1 <= n && n <= api.MaxWitnesses && 1 <= quorum && quorum <= n
			rightIs(t, fmt.Sprintf("a Quorum of %d of %d", quorum, n), policy(n, quorum), want)
		}
		for _, quorum := range noQuorums {
			rightIs(t, fmt.Sprintf("a Quorum of %d of %d", quorum, n), policy(n, quorum), false)
		}
		for _, quorum := range []int{math.MinInt, math.MaxInt, n + 1, 1<<32 + n, n - 1<<32, 256 + n} {
			rightIs(t, fmt.Sprintf("a Quorum of %d of %d", quorum, n), policy(n, quorum), false)
		}
	}
	for _, none := range [][][]byte{nil, {}, policy(4, 1).Witnesses[:0]} {
		for quorum := -1; quorum < 6; quorum++ {
			rightIs(t, "no Witnesses", api.Policy{Log: publicOf(logNumber), Witnesses: none, Quorum: quorum}, false)
		}
	}
}

// P11.1, R4, R5: a Log has HashSize bytes: the room behind it does not count.
func TestRightOfLogs(t *testing.T) {
	for n := range 100 {
		for _, log := range [][]byte{noise(n), noise(200)[:n], roomy(noise(n))} {
			p := policy(3, 2)
			p.Log = log
			rightIs(t, fmt.Sprintf("a Log of %d bytes", n), p, n == api.HashSize)
		}
	}
	for _, log := range [][]byte{nil, {}, noise(api.HashSize)[:0], noise(256 + 32), noise(1<<16 + 32)} {
		p := policy(3, 2)
		p.Log = log
		rightIs(t, fmt.Sprintf("a Log of %d bytes", len(log)), p, false)
	}
	p := policy(3, 2)
	p.Log = make([]byte, api.HashSize)
	rightIs(t, "a Log of zeros: the form alone is asked", p, true)
}

// P11.1, R4, R5: at each place a Witness of each length.
func TestRightOfWitnesses(t *testing.T) {
	for count := 1; count <= api.MaxWitnesses; count++ {
		for place := range count {
			for n := range 70 {
				for _, key := range [][]byte{noise(n), noise(200)[:n], roomy(noise(n))} {
					p := policy(count, 1)
					p.Witnesses[place] = key
					rightIs(t, fmt.Sprintf("Witness %d of %d has %d bytes", place, count, n), p, n == api.HashSize)
				}
			}
			for _, key := range [][]byte{nil, {}, noise(256 + 32)} {
				p := policy(count, count)
				p.Witnesses[place] = key
				rightIs(t, fmt.Sprintf("Witness %d of %d has %d bytes", place, count, len(key)), p, false)
			}
			p := policy(count, count)
			p.Witnesses[place] = make([]byte, api.HashSize)
			rightIs(t, "a Witness of zeros: the form alone is asked", p, true)
		}
	}
}

// P11.1: two Witnesses the same, at each pair of places, in one memory or in two; unlike in one bit they may be.
func TestRightOfPairs(t *testing.T) {
	for count := 2; count <= api.MaxWitnesses; count++ {
		for first := range count {
			for second := range first {
				name := fmt.Sprintf("Witnesses %d and %d of %d", first, second, count)
				for _, quorum := range []int{1, count - 1, count} {
					p := policy(count, quorum)
					p.Witnesses[first] = p.Witnesses[second]
					rightIs(t, name+" in one memory", p, false)
					p.Witnesses[first] = roomy(p.Witnesses[second])
					rightIs(t, name+" in two", p, false)
				}
				for bit := range 8 * api.HashSize {
					p := policy(count, 1)
					p.Witnesses[first] = bytes.Clone(p.Witnesses[second])
					p.Witnesses[first][bit/8] ^= 1 << (bit % 8)
					rightIs(t, fmt.Sprintf("%s but for bit %d", name, bit), p, true)
				}
			}
		}
		p := policy(count, 1)
		p.Witnesses = slices.Repeat([][]byte{p.Witnesses[0]}, count)
		rightIs(t, "all Witnesses the same", p, false)
	}
}

// P11.1: the Log may be one of the Witnesses.
func TestRightOfTheLogAsWitness(t *testing.T) {
	for count := 1; count <= api.MaxWitnesses; count++ {
		for place := range count {
			p := policy(count, count)
			p.Log = bytes.Clone(p.Witnesses[place])
			rightIs(t, fmt.Sprintf("the Log is Witness %d of %d", place, count), p, true)
			p.Log = p.Witnesses[place]
			rightIs(t, fmt.Sprintf("the Log is Witness %d of %d, in one memory", place, count), p, true)
		}
	}
}

// P11.1: the policies that the other tests hold for wrong; and the room behind a list of Witnesses does not count.
func TestRightOfWrongPolicies(t *testing.T) {
	for _, w := range wrongPolicies() {
		rightIs(t, w.name, w.p, false)
		rightIs(t, w.name+", with room", roomyPolicy(w.p), false)
	}
	for count := 1; count <= api.MaxWitnesses; count++ {
		rightIs(t, "room behind all lists", roomyPolicy(policy(count, count)), true)
		p := policy(count, count)
		p.Witnesses = slices.Concat(p.Witnesses, p.Witnesses, [][]byte{nil})[:count]
		rightIs(t, "the same Witnesses in the room", p, true)
		p.Quorum++
		rightIs(t, "a Quorum that counts the room", p, false)
	}
}

// P11.1: the letters, then the Size as four bytes the highest first and the Root, as check.Body lays them; of each Size that may be.
func TestBody(t *testing.T) {
	for size := range api.MaxLeaves + 1 {
		c := point(size)
		want := slices.Concat([]byte("broadsheet cosign"), []byte{0, 0, byte(size / 256), byte(size % 256)}, c.Root)
		is(t, fmt.Sprintf("P11.1: Body of Size %d", size), cosign.Body(c), want)
		is(t, "what the test holds for Body", wantBody(c), want)
		rest, ok := bytes.CutPrefix(check.Body(c), []byte("broadsheet check"))
		if !ok {
			t.Fatalf("P10.1: check.Body of Size %d", size)
		}
		is(t, fmt.Sprintf("P11.1: Body of Size %d behind its letters", size), cosign.Body(c)[17:], rest)
		c.Root = roomy(c.Root)
		is(t, fmt.Sprintf("P11.1: Body of Size %d, the Root with room", size), cosign.Body(c), want)
	}
	if got := len(cosign.Body(point(1))); got != 17+4+32 {
		t.Errorf("P11.1: Body has %d bytes", got)
	}
}

// P11.1: the Root's bytes stand as they are, whatever they are.
func TestBodyOfRoots(t *testing.T) {
	for b := range 256 {
		c := api.Checkpoint{Size: 255, Root: bytes.Repeat([]byte{byte(b)}, api.HashSize)}
		is(t, fmt.Sprintf("P11.1: Body of a Root of bytes %d", b), cosign.Body(c), wantBody(c))
		c.Root = noise(100 + b)[:api.HashSize]
		is(t, fmt.Sprintf("P11.1: Body of any Root %d", b), cosign.Body(c), wantBody(c))
	}
}

// P11.1: of what is not right: nothing.
func TestBodyOfWhatIsNotRight(t *testing.T) {
	for _, c := range notRight() {
		if check.Right(c) {
			t.Fatalf("Size %d, a Root of %d bytes: the test holds it for what is not right", c.Size, len(c.Root))
		}
		if b := cosign.Body(c); len(b) > 0 {
			t.Errorf("P11.1: Size %d, a Root of %d bytes: Body of %d bytes", c.Size, len(c.Root), len(b))
		}
	}
}

// P11.1: a Body is never check's of any checkpoint: already their letters part them, and so do their lengths.
func TestBodyIsNoneOfCheck(t *testing.T) {
	var points []api.Checkpoint
	for size := range api.MaxLeaves + 1 {
		points = append(points, point(size), api.Checkpoint{Size: size, Root: make([]byte, 32)}, api.Checkpoint{Size: size, Root: bytes.Repeat([]byte("n\x00"), 16)})
	}
	ofCheck := map[string]int{}
	for _, c := range points {
		ofCheck[string(check.Body(c))] = 1
	}
	for _, c := range points {
		b := cosign.Body(c)
		if ofCheck[string(b)] > 0 || len(b) == len(check.Body(c)) || bytes.HasPrefix(b, check.Body(c)[:16]) || bytes.HasPrefix(check.Body(c), b[:13]) {
			t.Errorf("P11.1: Body of Size %d may be one of package check", c.Size)
		}
	}
}
