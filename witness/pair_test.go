package witness_test

import (
	"math/rand"
	"testing"

	"broadsheet/api"
	"broadsheet/cosign"
	"broadsheet/witness"
)

// R4: two witnesses with disks of their own see nothing of each other, whatever is done to the one.
func TestTwoWitnesses(t *testing.T) {
	eachRowAtOnce(t, shortSteps(), 2, func(t *testing.T, row []step) bool {
		one, other := benchOf(t, "R4: the one", 0, 2*recSize, 3*keySize), benchOf(t, "R4: the other", 1, 500, 500)
		if !other.plays(show(plain, 2), show(fork, 4)) {
			return false
		}
		for _, s := range row {
			if !one.plays(s) || !other.holds() || !other.plays(show(fork, 4).with(none)) {
				return false
			}
		}
		return other.plays(show(plain, 5), show(fork, 7)) && one.holds() && one.ends() && other.ends()
	})
}

// R4: by turns: each of three witnesses goes on as its own account says.
func TestWitnessesByTurns(t *testing.T) {
	r := rand.New(rand.NewSource(3))
	for range 10 {
		benches := []*bench{benchOf(t, "R4: first", 0, 400, 900), benchOf(t, "R4: second", 2, api.MaxDisk, 50), benchOf(t, "R4: third", 3, 2000, api.MaxDisk)}
		for range 200 {
			b := benches[r.Intn(len(benches))]
			if !b.plays(anyStep(r, b.a.last)) || !benches[r.Intn(len(benches))].holds() {
				return
			}
		}
	}
}

// P18.2, R4: two witnesses that have one seed and other numbers, and one that has another log: each is by itself.
func TestWitnessesThatAreAlmostAlike(t *testing.T) {
	w, d, k := begun(t, "R4: the one")
	same := opened(t, "R4: of the same seed", roomy(t), roomy(t), 1, plain.at(0), 0)
	other, why := witness.Open(roomy(t), roomy(t), 0, seedOf(witnessSeed), publicOf(otherSeed))
	answers(t, "P18.1: Open", why, api.OK)
	cosigns(t, "R4: the one", w, plain.signed(2), plain.grow(0, 2), 0)
	cosigns(t, "R4: of the same seed", same, alien.signed(5), alien.grow(0, 5), 0)
	cosigns(t, "R4: of another log", other, signedBy(otherSeed, 1, fork.at(9)), fork.grow(0, 9), 0)
	cosignsNot(t, "R4: of another log", other, plain.signed(20), plain.grow(9, 20), api.ErrSign)
	cosigns(t, "R4: the one", w, plain.signed(3), plain.grow(2, 3), 1)
	stands(t, "R4: of the same seed", same, 1, alien.at(5), 1)
	stands(t, "R4: of another log", other, 0, fork.at(9), 1)
	stands(t, "R4: the one", w, 0, plain.at(3), 2)
	tells(t, "R4: the one", d, plain.lie(2, 3), 2*recSize, false)
	tells(t, "R4: the one", k, used(2), 2*keySize, false)
}

// W2: a log that shows two faces to two witnesses is cosigned on each by the one that it was shown to; neither goes over to the other, so that both together are no quorum for a checkpoint of one size.
func TestTwoFacesForTwoWitnesses(t *testing.T) {
	seeds := [][]byte{seedOf(40), seedOf(41), seedOf(42)}
	p := api.Policy{Log: publicOf(logSeed), Witnesses: [][]byte{publicOf(40), publicOf(41), publicOf(42)}, Quorum: 2}
	var all []*witness.Witness
	for id, seed := range seeds {
		w, why := witness.Open(roomy(t), roomy(t), id, seed, p.Log)
		answers(t, "P18.1: Open", why, api.OK)
		all = append(all, w)
	}
	row := map[*face][]api.Cosig{}
	for size := 3; size < 7; size++ {
		clear(row)
		for id, first := range []*face{plain, fork, plain} {
			for _, f := range []*face{first, map[*face]*face{plain: fork, fork: plain}[first]} {
				from := all[id].Check().Size
				if g, why := all[id].Cosign(f.signed(size), f.grow(from, size)); why == api.OK {
					row[f] = append(row[f], g)
				}
			}
		}
		if n, m := cosign.Count(p, plain.at(size).check(), row[plain]...), cosign.Count(p, fork.at(size).check(), row[fork]...); n != 2 || m != 1 {
			t.Errorf("W2: size %d: %d witnesses cosigned the one face, %d the other", size, n, m)
		}
		if !cosign.Met(p, plain.at(size).check(), row[plain]...) || cosign.Met(p, fork.at(size).check(), row[fork]...) || cosign.Met(p, fork.at(size).check(), row[plain]...) {
			t.Errorf("W2: size %d: the quorum", size)
		}
	}
}

// R4: the same steps are answered the same.
func TestTheSameStepsAgain(t *testing.T) {
	for seed := range int64(10) {
		one, other := benchOf(t, "R4", 1, 1000, 1000), benchOf(t, "R4", 1, 1000, 1000)
		r, q := rand.New(rand.NewSource(seed)), rand.New(rand.NewSource(seed))
		for range 60 {
			if !one.plays(anyStep(r, one.a.last)) || !other.plays(anyStep(q, other.a.last)) {
				return
			}
			if told(one.d) != told(other.d) || told(one.k) != told(other.k) {
				t.Fatalf("R4: %s, then %s", told(one.d), told(other.d))
			}
		}
	}
}

// W5: odd checkpoints, signatures and growths, of which lists are nil, empty, short, long and of any numbers: each is refused, none panics, and the witness goes on.
func TestNothingIsTooOdd(t *testing.T) {
	r := rand.New(rand.NewSource(5))
	w, d, k := begun(t, "W5")
	cosigns(t, "W5", w, plain.signed(3), plain.grow(0, 3), 0)
	d.Arm(1)
	k.Arm(1)
	numbers := []int{least, -1, 0, 1, 2, 3, 4, 5, 15, 16, 255, 256, 257, 1 << 31, 1 << 32, greatest}
	anyList := func() [][]byte {
		var l [][]byte
		for range []int{0, 0, 1, 2, 4, 17, 63, 64, 65, r.Intn(300)}[r.Intn(10)] {
			l = append(l, make([]byte, []int{0, 31, 32, 32, 32, 33, 70000}[r.Intn(7)*r.Intn(2)]))
		}
		return l
	}
	for i := range 3000 {
		g := api.Growth{From: numbers[r.Intn(len(numbers))], To: numbers[r.Intn(len(numbers))], Path: anyList()}
		s := plain.signed(5)
		if r.Intn(3) > 0 {
			s = api.Signed{Check: api.Checkpoint{Size: numbers[r.Intn(len(numbers))], Root: make([]byte, []int{0, 31, 32, 33}[r.Intn(4)])}, Sig: api.Sig{Index: numbers[r.Intn(len(numbers))], Parts: anyList(), Path: anyList()}}
		}
		if got, why := w.Cosign(s, g); why != api.ErrSign && why != api.ErrProof || !nothing(got) {
			t.Fatalf("W5: case %d: %v", i, why)
		}
	}
	armedSo(t, "W5", d, 1)
	armedSo(t, "W5", k, 1)
	stands(t, "W5", w, 0, plain.at(3), 1)
}
