package cosign_test

import (
	"bytes"
	"encoding/binary"
	"fmt"
	"math/rand"
	"slices"
	"testing"

	"broadsheet/api"
	"broadsheet/cosign"
	"broadsheet/sign"
	"broadsheet/wire"
)

// laid tells what the program lays down: what it refuses ends the test.
func laid(t *testing.T, g api.Cosig) []byte {
	t.Helper()
	w := wire.New()
	if !cosign.Put(w, g) {
		t.Fatalf("P11.2: Put of witness %d, key %d: false", g.Witness, g.Sig.Index)
	}
	return w.Done()
}

// P11.2: behind what the writer held before, just the byte of the Witness and sign.Encode's bytes raw.
func TestPut(t *testing.T) {
	for _, ahead := range []int{0, 1, 4, 100, api.MaxRecord + 1} {
		for witness := range api.MaxWitnesses {
			for index := range api.Keys {
				g := unsigned(witness, index)
				if index%4 == witness {
					g = roomyCosig(g)
				}
				w := wire.New()
				w.Raw(noise(ahead))
				if !cosign.Put(w, g) {
					t.Fatalf("P11.2: Put of witness %d, key %d behind %d bytes: false", witness, index, ahead)
				}
				sig, _ := sign.Encode(g.Sig)
				want := slices.Concat([]byte{byte(witness)}, sig)
				is(t, fmt.Sprintf("P11.2: Put of witness %d, key %d behind %d bytes", witness, index, ahead), w.Done(), slices.Concat(noise(ahead), want))
				is(t, "P11.2: what the test holds for laid down", wantLaid(g), want)
				w.Byte(7)
				is(t, "P11.2: a byte behind what was put", w.Done(), slices.Concat(noise(ahead), want, []byte{7}))
			}
		}
	}
	if got := len(laid(t, unsigned(0, 0))); got != 1+api.SigSize {
		t.Errorf("P11.2: Put lays down %d bytes", got)
	}
}

// P11.2: what is not right: false, and the writer as it was, also when it goes on.
func TestPutOfWhatIsNotRight(t *testing.T) {
	right := unsigned(2, 3)
	for _, ahead := range []int{0, 1, 100} {
		w := wire.New()
		w.Raw(noise(ahead))
		for i, g := range wrongCosigs() {
			if cosign.Put(w, g) {
				t.Errorf("P11.2: Put of what is not right, case %d, witness %d: true", i, g.Witness)
			}
			is(t, fmt.Sprintf("P11.2: the writer behind Put, case %d", i), w.Done(), noise(ahead))
		}
		if !cosign.Put(w, right) {
			t.Error("P11.2: Put behind refused ones: false")
		}
		is(t, "P11.2: Put behind refused ones", w.Done(), slices.Concat(noise(ahead), wantLaid(right)))
	}
	for witness := -300; witness < 600; witness++ {
		w := wire.New()
		if got, want := cosign.Put(w, unsigned(witness, 3)), 0 <= witness && witness < api.MaxWitnesses; got != want || (len(w.Done()) > 0) != want {
			t.Errorf("P11.2: Put of witness %d: %v, %d bytes", witness, got, len(w.Done()))
		}
	}
}

// P11.2: several, one behind the other, are put and come back in their order.
func TestSeveral(t *testing.T) {
	const count = 40
	w := wire.New()
	var want []byte
	for i := range count {
		g := unsigned(i%4, i*7%16)
		if !cosign.Put(w, g) || cosign.Put(w, api.Cosig{}) {
			t.Fatalf("P11.2: Put number %d", i)
		}
		want = append(want, wantLaid(g)...)
		is(t, "P11.2: several", w.Done(), want)
	}
	r := wire.Read(w.Done())
	for i := range count {
		g, ok := cosign.Get(r)
		if !ok || r.Left() != (count-i-1)*laidEnd {
			t.Errorf("P11.2: Get number %d: %v, %d bytes left", i, ok, r.Left())
		}
		cosigIs(t, "P11.2: several", g, unsigned(i%4, i*7%16))
	}
	if !r.End() {
		t.Error("P11.2: Get of several: not at the end")
	}
}

// R1: a nil writer and a nil reader: the answer's zero value.
func TestNilWritersAndReaders(t *testing.T) {
	if cosign.Put(nil, unsigned(2, 3)) || cosign.Put(nil, api.Cosig{}) || cosign.Put(nil, unsigned(4, 3)) {
		t.Error("R1: Put to a nil writer: true")
	}
	getRefuses(t, "a nil reader", nil)
}

// P11.2: Get of what Put wrote, with other things ahead of it and behind it that are read, too; what was signed is verified then as it was.
func TestGet(t *testing.T) {
	for witness := range api.MaxWitnesses {
		for index := range api.Keys {
			for _, behind := range []int{0, 1, 4, laidEnd - 1, laidEnd} {
				want := unsigned(witness, index)
				w := wire.New()
				w.Num(uint32(index))
				cosign.Put(w, want)
				w.Raw(noise(behind))
				r := wire.Read(w.Done())
				if got := r.Num(); got != uint32(index) {
					t.Fatalf("P1.3: Num: %d", got)
				}
				g, ok := cosign.Get(r)
				if !ok || r.Bad() || r.Left() != behind {
					t.Errorf("P11.2: Get of witness %d, key %d: %v, bad %v, %d bytes left, want %d", witness, index, ok, r.Bad(), r.Left(), behind)
				}
				cosigIs(t, "P11.2: Get", g, want)
				is(t, "P11.2: what is read behind it", r.Raw(behind), noise(behind))
				if !r.End() {
					t.Error("P11.2: all was read: not at the end")
				}
			}
		}
		made := by(t, witness, 3, 5)
		back, ok := cosign.Get(wire.Read(laid(t, made)))
		if !ok {
			t.Fatalf("P11.2: Get of what witness %d signed: false", witness)
		}
		cosigIs(t, "P11.2: Get of what was signed", back, made)
		holds(t, "back from its bytes", policy(4, 1), point(5), back)
	}
}

// getRefuses holds Get's answer against false, beside which nothing is told.
func getRefuses(t *testing.T, name string, r *wire.Reader) {
	t.Helper()
	if g, ok := cosign.Get(r); ok || !isZero(g) {
		t.Errorf("P11.2, R3: Get of %s: %v; zero: %v", name, ok, isZero(g))
	}
}

// P11.2, P1.2: what lacks, at each place, whatever the room behind it holds; the reader is bad then, as it is where any of its calls lacks.
func TestGetOfWhatLacks(t *testing.T) {
	for _, g := range []api.Cosig{unsigned(2, 3), unsigned(0, 0), unsigned(3, 15), unsigned(4, 3), unsigned(2, 16)} {
		b := wantLaid(g)
		for n := range b {
			for _, cut := range [][]byte{b[:n], slices.Clip(b[:n])} {
				r := wire.Read(cut)
				getRefuses(t, fmt.Sprintf("the first %d bytes", n), r)
				if !r.Bad() || r.Left() != 0 {
					t.Errorf("P1.2: Get of the first %d bytes: bad %v, %d left", n, r.Bad(), r.Left())
				}
				getRefuses(t, "a reader that lacked", r)
			}
		}
	}
	for _, nothing := range [][]byte{nil, {}, wantLaid(unsigned(2, 3))[:0]} {
		getRefuses(t, "nothing", wire.Read(nothing))
	}
}

// P11.2: the end of what Put wrote, and what stands behind something that was read.
func TestGetOfARest(t *testing.T) {
	b := wantLaid(unsigned(2, 3))
	for n := 1; n <= len(b); n++ {
		r := wire.Read(b)
		r.Raw(n)
		getRefuses(t, fmt.Sprintf("all from byte %d on", n), r)
	}
}

// P11.2: a reader that is bad already, though it was given all bytes.
func TestGetOfABadReader(t *testing.T) {
	b := wantLaid(unsigned(0, 0))
	for name, spoil := range map[string]func(r *wire.Reader){
		"more asked than there is": func(r *wire.Reader) { r.Raw(len(b) + 1) },
		"less than nothing asked":  func(r *wire.Reader) { r.Raw(-1) },
		"a text that is too long":  func(r *wire.Reader) { r.Raw(partsAt); r.Bytes(0) },
	} {
		r := wire.Read(b)
		spoil(r)
		if !r.Bad() {
			t.Fatalf("P1.2: %s: not bad", name)
		}
		getRefuses(t, "a bad reader: "+name, r)
	}
}

// withIndex tells b with another number of the key.
func withIndex(b []byte, n uint32) []byte {
	b = bytes.Clone(b)
	binary.BigEndian.PutUint32(b[indexAt:], n)
	return b
}

// holdGet holds Get's answer against what these bytes begin with, or against false beside which nothing is told; was it taken?
func holdGet(t *testing.T, name string, b []byte) bool {
	t.Helper()
	want, ok := wantRead(b)
	if !ok {
		getRefuses(t, name, wire.Read(b))
		return false
	}
	r := wire.Read(b)
	g, got := cosign.Get(r)
	if !got || r.Left() != len(b)-laidEnd {
		t.Errorf("P11.2: Get of %s: %v, %d bytes left", name, got, r.Left())
		return got
	}
	cosigIs(t, "P11.2: Get of "+name, g, want)
	is(t, "P11.2: what Get told of "+name+", laid down again", laid(t, g), b[:laidEnd])
	return true
}

// P11.2: each byte as Witness, each number as Index, those above all that may be too, with nothing behind it or more.
func TestGetOfNumbers(t *testing.T) {
	for _, behind := range []int{0, 1, 3000} {
		for witness := range 256 {
			b := append(wantLaid(unsigned(witness, 3)), noise(behind)...)
			if took := holdGet(t, fmt.Sprintf("witness %d", witness), b); took != (witness < 4) {
				t.Errorf("P11.2: Get of witness %d: %v", witness, took)
			}
		}
		b := append(wantLaid(unsigned(2, 3)), noise(behind)...)
		for n := range uint32(1 << 10) {
			if took := holdGet(t, fmt.Sprintf("Index %d", n), withIndex(b, n)); took != (n < 16) {
				t.Errorf("P11.2: Get of Index %d: %v", n, took)
			}
		}
		for _, n := range []uint32{1<<16 - 1, 1 << 16, 1<<16 + 5, 1 << 24, 1<<24 + 5, 1<<31 - 1, 1 << 31, 1<<31 + 5, 1<<32 - 16, 1<<32 - 1} {
			getRefuses(t, fmt.Sprintf("Index %d", n), wire.Read(withIndex(b, n)))
		}
	}
}

// P11.2: each bit of the hashes turned in turn comes back turned: the form alone is asked.
func TestGetOfTurnedBits(t *testing.T) {
	b := wantLaid(unsigned(2, 3))
	for bit := 8 * partsAt; bit < 8*laidEnd; bit++ {
		other := bytes.Clone(b)
		other[bit/8] ^= 1 << (bit % 8)
		if !holdGet(t, fmt.Sprintf("bit %d turned", bit), other) {
			t.Errorf("P11.2: bit %d turned: not taken", bit)
		}
	}
}

// P11.2, W5: any bytes of that length and of others are taken or refused as they should be.
func TestGetOfAnyBytes(t *testing.T) {
	dice := rand.New(rand.NewSource(11))
	taken := 0
	for round := range 6000 {
		b := make([]byte, laidEnd+max(0, dice.Intn(6)-3)-max(0, dice.Intn(6)-3))
		dice.Read(b)
		copy(b, []byte{byte(dice.Intn(6)), 0, 0, 0, byte(dice.Intn(20))}[:dice.Intn(6)])
		if dice.Intn(2) == 0 { // so that some may be taken
			copy(b, []byte{byte(dice.Intn(6)), 0, 0, 0, byte(dice.Intn(20))})
		}
		if holdGet(t, fmt.Sprintf("any bytes, round %d", round), b) {
			taken++
		}
	}
	if taken < 500 {
		t.Errorf("of any bytes %d were taken: the test asks too little", taken)
	}
}
