package cosign_test

import (
	"bytes"
	"fmt"
	"slices"
	"testing"

	"broadsheet/api"
	"broadsheet/cosign"
	"broadsheet/wire"
)

// spoil writes over b and over the room behind it. What is spoilt several times does not come back.
func spoil(b []byte) {
	b = b[:cap(b)]
	for i := range b {
		b[i]++
	}
}

// spoilList writes over all that l reaches, the list itself last.
func spoilList(l [][]byte) {
	for _, b := range l[:cap(l)] {
		spoil(b)
	}
	clear(l[:cap(l)])
}

// spoilCosig writes over all that g reaches.
func spoilCosig(g api.Cosig) {
	spoilList(g.Sig.Parts)
	spoilList(g.Sig.Path)
}

// spoilPolicy writes over all that p reaches.
func spoilPolicy(p api.Policy) {
	spoil(p.Log)
	spoilList(p.Witnesses)
}

// roomyList tells the texts of l, each with room behind it, in a list with room behind it.
func roomyList(l [][]byte) [][]byte {
	list := make([][]byte, 0, len(l)+3)
	for _, b := range l {
		list = append(list, roomy(b))
	}
	behind := append(list, noise(7), noise(8), noise(9))
	return behind[:len(l)]
}

// roomyPolicy and roomyCosig tell what they are given with room behind each text and each list.
func roomyPolicy(p api.Policy) api.Policy {
	return api.Policy{Log: roomy(p.Log), Witnesses: roomyList(p.Witnesses), Quorum: p.Quorum}
}

func roomyCosig(g api.Cosig) api.Cosig {
	return api.Cosig{Witness: g.Witness, Sig: api.Sig{Index: g.Sig.Index, Parts: roomyList(g.Sig.Parts), Path: roomyList(g.Sig.Path)}}
}

// reached is all that was handed in: the texts of lists as they stand there, and their bytes, the room behind each and behind the lists too.
type reached struct {
	texts, bytes [][]byte
}

func reach(p api.Policy, c api.Checkpoint, l []api.Cosig) reached {
	texts := slices.Concat([][]byte{p.Log, c.Root}, p.Witnesses[:cap(p.Witnesses)])
	for _, g := range l[:cap(l)] {
		texts = slices.Concat(texts, g.Sig.Parts[:cap(g.Sig.Parts)], g.Sig.Path[:cap(g.Sig.Path)])
	}
	var r reached
	for _, b := range texts {
		r.texts = append(r.texts, b)
		r.bytes = append(r.bytes, bytes.Clone(b[:cap(b)]))
	}
	return r
}

// stays: is all that was reached as it was, and where it was?
func (r reached) stays(now reached) bool {
	return slices.EqualFunc(r.bytes, now.bytes, bytes.Equal) && slices.EqualFunc(r.texts, now.texts, func(a, b []byte) bool {
		return len(a) == len(b) && cap(a) == cap(b) && (cap(a) == 0 || &a[:1][0] == &b[:1][0])
	})
}

// R2: policies, checkpoints and lists of cosignatures are not changed, taken or refused, in any length or behind it.
func TestWhatIsAskedStays(t *testing.T) {
	policies := append(wrongPolicies(), wrongPolicy{"right", policy(3, 2)}, wrongPolicy{"all four", policy(4, 4)})
	points := []api.Checkpoint{point(5), point(257), {Size: 5, Root: noise(31)}}
	list := []api.Cosig{by(t, 0, 3, 5), by(t, 1, 3, 5), by(t, 0, 3, 5), unsigned(2, 3), {}, {Witness: -1}, {Witness: 4, Sig: unsigned(4, 3).Sig}, by(t, 2, 3, 5), by(t, 3, 3, 5), {Witness: 77}}
	for _, given := range policies {
		for _, c := range points {
			p, c := roomyPolicy(given.p), api.Checkpoint{Size: c.Size, Root: roomy(c.Root)}
			var l []api.Cosig
			for _, g := range list {
				l = append(l, roomyCosig(g))
			}
			short := l[:7]
			was := reach(p, c, short)
			for range 2 {
				cosign.Right(p)
				spoil(cosign.Body(c))
				cosign.Count(p, c, short...)
				cosign.Met(p, c, short...)
				for _, g := range l {
					cosign.Verify(p, c, g)
					w := wire.New()
					cosign.Put(w, g)
					w.Raw(noise(50))
					spoil(w.Done())
				}
			}
			if !was.stays(reach(p, c, short)) || p.Quorum != given.p.Quorum {
				t.Errorf("R2: %s, Size %d: what was handed in or the room behind it changed", given.name, c.Size)
			}
			for i, g := range l[:cap(l)] {
				if i < len(list) {
					cosigIs(t, fmt.Sprintf("R2: cosignature %d", i), g, list[i])
				}
			}
		}
	}
}

// R2: cosignatures that may not be laid down are not changed by that, either.
func TestRefusedCosigsStay(t *testing.T) {
	for i, given := range wrongCosigs() {
		g := roomyCosig(given)
		was := reach(api.Policy{}, api.Checkpoint{}, []api.Cosig{g})
		cosign.Put(wire.New(), g)
		cosign.Verify(policy(3, 1), point(5), g)
		if !was.stays(reach(api.Policy{}, api.Checkpoint{}, []api.Cosig{g})) {
			t.Errorf("R2: case %d: a refused cosignature changed", i)
		}
		cosigIs(t, fmt.Sprintf("R2: case %d", i), g, given)
	}
}

// R2: seeds, Roots and bytes are not changed, in their length or behind it, by calls that take or refuse them.
func TestBytesStay(t *testing.T) {
	for _, n := range []int{0, 1, 31, 32, 33, 64} {
		seed, root := noise(n+200), noise(n+300)
		for _, m := range []int{31, 32, 33} {
			for _, index := range []int{-1, 0, 3, 16} {
				for _, witness := range []int{-1, 0, 3, 4} {
					g, _ := cosign.Sign(seed[:n], index, witness, api.Checkpoint{Size: 5, Root: root[:m]})
					spoilCosig(g)
				}
			}
		}
		if !bytes.Equal(seed, noise(n+200)) || !bytes.Equal(root, noise(n+300)) {
			t.Errorf("R2: %d bytes: a seed, a Root or the room behind it changed", n)
		}
	}
	whole := append(wantLaid(unsigned(2, 3)), noise(100)...)
	for _, n := range []int{0, 1, 4, 5, 36, laidEnd - 1, laidEnd, laidEnd + 1, laidEnd + 100} {
		b := bytes.Clone(whole)
		g, _ := cosign.Get(wire.Read(b[:n]))
		spoilCosig(g)
		is(t, fmt.Sprintf("R2: %d bytes and the room behind them", n), b, whole)
	}
}

// R2: what was given may be changed afterwards: no answer hangs on it any more.
func TestNothingIsKept(t *testing.T) {
	for index := range api.Keys {
		witness, size := index%4, 16*index
		seed, c := roomy(seedOf(witness)), api.Checkpoint{Size: size, Root: roomy(noise(32))}
		want := wantCosig(t, seedOf(witness), index, witness, point(size))
		body, g := cosign.Body(c), signed(t, seed, index, witness, c)
		spoil(seed)
		spoil(c.Root)
		is(t, "R2: Body, its Root changed", body, wantBody(point(size)))
		cosigIs(t, "R2: Sign, its seed and its Root changed", g, want)
		w := wire.New()
		put := cosign.Put(w, g)
		spoilCosig(g)
		if !put {
			t.Error("P11.2: Put: false")
		}
		is(t, "R2: Put, what it was given changed", w.Done(), wantLaid(want))
		b := roomy(w.Done())
		got, ok := cosign.Get(wire.Read(b))
		spoil(b)
		cosigIs(t, "R2: Get, its bytes changed", got, want)
		if !ok {
			t.Error("P11.2: Get: false")
		}
	}
}

// R2, R4: a policy, a checkpoint or a list that was asked of and changed then: the next answers are of what is given next.
func TestNoAnswerHangsOnEarlierOnes(t *testing.T) {
	for range 2 {
		p, c, l := roomyPolicy(policy(3, 2)), point(5), all(t, 3, 5)
		if !cosign.Right(p) || !cosign.Verify(p, c, l[0]) || cosign.Count(p, c, l...) != 3 || !cosign.Met(p, c, l...) {
			t.Error("R2: a right policy: not met")
		}
		spoilPolicy(p)
		if cosign.Right(p) || cosign.Verify(p, c, l[0]) || cosign.Count(p, c, l...) != 0 || cosign.Met(p, c, l...) {
			t.Error("R2: a policy that was written over: met")
		}
		p = policy(3, 2)
		spoil(c.Root)
		if cosign.Count(p, c, l...) != 0 {
			t.Error("R2: a checkpoint that was written over: counted")
		}
		spoilCosig(l[1])
		clear(l[2:])
		if got := cosign.Count(p, point(5), l...); got != 1 || cosign.Met(p, point(5), l...) {
			t.Errorf("R2: a list of which one is left: %d", got)
		}
	}
}

// R2, R4: who asked may write into answers, and into the room behind them: neither what was given nor any other answer changes.
func TestAnswersAreNewMemory(t *testing.T) {
	seed, c := seedOf(1), point(256)
	want := wantCosig(t, seed, 3, 1, c)
	keptBody, kept := cosign.Body(c), signed(t, seed, 3, 1, c)
	keptBack, _ := cosign.Get(wire.Read(wantLaid(want)))
	for range 3 {
		body, g := cosign.Body(c), signed(t, seed, 3, 1, c)
		is(t, "R2: Body again", body, wantBody(c))
		cosigIs(t, "R2: Sign again", g, want)
		_ = append(body, noise(50)...)
		spoil(body)
		b := laid(t, g)
		spoilCosig(g)
		is(t, "R2: Put, what was signed written over", b, wantLaid(want))
		back, _ := cosign.Get(wire.Read(b))
		spoilCosig(back)
		is(t, "R2: bytes of which the answer was written over", b, wantLaid(want))
		is(t, "R2: the seed", seed, seedOf(1))
		is(t, "R2: the Root", c.Root, point(256).Root)
	}
	is(t, "R2: Body, other answers written over", keptBody, wantBody(c))
	cosigIs(t, "R2: Sign, other answers written over", kept, want)
	cosigIs(t, "R2: Get, other answers written over", keptBack, want)
}

// R2: a reader goes on unchanged when what it gave is written over.
func TestReadersGoOn(t *testing.T) {
	w := wire.New()
	for i := range api.Keys {
		cosign.Put(w, unsigned(i%4, i))
	}
	r := wire.Read(w.Done())
	for i := range api.Keys {
		g, ok := cosign.Get(r)
		if !ok {
			t.Fatalf("P11.2: Get number %d: false", i)
		}
		cosigIs(t, "R2: Get behind answers that were written over", g, unsigned(i%4, i))
		for _, b := range slices.Concat(g.Sig.Parts, g.Sig.Path) {
			_ = append(b, noise(3000)...)
		}
		spoilCosig(g)
	}
}

// sharesNone writes over each text and each list of g in turn, and looks whether all others stay.
func sharesNone(t *testing.T, name string, g api.Cosig) {
	t.Helper()
	want, texts := copied(g), slices.Concat(g.Sig.Parts, g.Sig.Path)
	were := slices.Concat(want.Sig.Parts, want.Sig.Path)
	for place, b := range texts {
		_ = append(b, noise(100)...)
		spoil(b)
		for i, other := range texts {
			if i != place && !bytes.Equal(other, were[i]) {
				t.Fatalf("R2: %s: text %d written over: text %d changed", name, place, i)
			}
		}
		copy(b, were[place])
	}
	clear(g.Sig.Parts[:cap(g.Sig.Parts)])
	if !slices.EqualFunc(g.Sig.Path, want.Sig.Path, bytes.Equal) {
		t.Errorf("R2: %s: the list of parts written over: the path changed", name)
	}
	copy(g.Sig.Parts, texts)
	clear(g.Sig.Path[:cap(g.Sig.Path)])
	if !slices.EqualFunc(g.Sig.Parts, want.Sig.Parts, bytes.Equal) {
		t.Errorf("R2: %s: the path written over: the list of parts changed", name)
	}
}

// R2: no two lists of one answer share memory, the room behind them included.
func TestListsShareNoMemory(t *testing.T) {
	for index := range api.Keys {
		g := signed(t, seedOf(1), index, index%4, point(5))
		got, ok := cosign.Get(wire.Read(append(laid(t, g), noise(9)...)))
		if !ok {
			t.Fatal("P11.2: Get: false")
		}
		sharesNone(t, "Sign", g)
		sharesNone(t, "Get", got)
	}
}

// R2: what is handed in may be one memory: the seed as Root, one hash as Log, Witness and Root, one hash at all places of a signature.
func TestOneMemoryForAll(t *testing.T) {
	one := seedOf(1)
	c := api.Checkpoint{Size: 5, Root: one}
	g := signed(t, one, 3, 1, c)
	cosigIs(t, "R2: Sign of a Root that is the seed", g, wantCosig(t, seedOf(1), 3, 1, api.Checkpoint{Size: 5, Root: seedOf(1)}))
	spoilCosig(g)
	is(t, "R2: the one memory", one, seedOf(1))

	key := publicOf(1)
	p := api.Policy{Log: key, Witnesses: [][]byte{key}, Quorum: 1}
	c.Root = key
	g = signed(t, seedOf(1), 3, 0, c)
	holds(t, "one hash as Log, Witness and Root", p, c, g)
	is(t, "R2: the one key", key, publicOf(1))

	many := api.Cosig{Sig: api.Sig{Parts: slices.Repeat([][]byte{one}, places), Path: slices.Repeat([][]byte{one}, api.Height)}}
	back, ok := cosign.Get(wire.Read(laid(t, many)))
	if !ok {
		t.Fatal("P11.2: Get: false")
	}
	cosigIs(t, "R2: one hash at all places, there and back", back, many)
	sharesNone(t, "one hash at all places", back)
	is(t, "R2: the one memory at all places", one, seedOf(1))
}

// R3: a refused call leaves nothing behind: what is asked next is answered as ever.
func TestRefusalsChangeNothing(t *testing.T) {
	want := wantCosig(t, seedOf(1), 3, 1, point(5))
	b := wantLaid(want)
	p := policy(3, 1)
	w := wire.New()
	w.Byte(9)
	for i, wrong := range wrongCosigs() {
		cosign.Sign(noise(i%32), 3, 1, point(5))
		cosign.Sign(seedOf(1), 16+i, 1, point(5))
		cosign.Sign(seedOf(1), 3, 4+i, point(5))
		cosign.Sign(seedOf(1), 3, 1, point(257+i))
		cosign.Put(w, wrong)
		cosign.Get(wire.Read(b[:i%len(b)]))
		holds(t, "behind refusals", p, point(5), want)
		fails(t, "a wrong one behind refusals", p, point(5), wrong)
		is(t, "R3: Put behind refusals", laid(t, want), b)
		is(t, "R3: the writer behind refusals", w.Done(), []byte{9})
	}
	cosigIs(t, "R3: Sign behind refusals", by(t, 1, 3, 5), want)
}
