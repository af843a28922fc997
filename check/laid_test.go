package check_test

import (
	"bytes"
	"encoding/binary"
	"fmt"
	"math/rand"
	"slices"
	"testing"

	"broadsheet/api"
	"broadsheet/check"
	"broadsheet/sign"
	"broadsheet/wire"
)

// P10.2: behind what the writer held before, just the Num of the Size, the Root raw, sign.Encode's bytes raw.
func TestPut(t *testing.T) {
	for _, ahead := range []int{0, 1, 4, 100, api.MaxRecord + 1} {
		for i, size := range sizes {
			s := unsigned(size, (i*5)%api.Keys)
			w := wire.New()
			w.Raw(noise(ahead))
			if !check.Put(w, s) {
				t.Fatalf("P10.2: Put of Size %d behind %d bytes: false", size, ahead)
			}
			sig, _ := sign.Encode(s.Sig)
			want := slices.Concat([]byte{0, 0, byte(size / 256), byte(size % 256)}, s.Check.Root, sig)
			is(t, fmt.Sprintf("P10.2: Put of Size %d behind %d bytes", size, ahead), w.Done(), slices.Concat(noise(ahead), want))
			is(t, "P10.2: what the test holds for laid down", wantLaid(s), want)
			w.Byte(7)
			is(t, "P10.2: a byte behind what was put", w.Done(), slices.Concat(noise(ahead), want, []byte{7}))
		}
	}
}

// P10.2: what is not right: false, and the writer as it was, also when it goes on.
func TestPutOfWhatIsNotRight(t *testing.T) {
	right := unsigned(5, 3)
	for _, ahead := range []int{0, 1, 100} {
		w := wire.New()
		w.Raw(noise(ahead))
		for i, s := range wrongSigneds() {
			if check.Put(w, s) {
				t.Errorf("P10.2: Put of what is not right, case %d: true", i)
			}
			is(t, fmt.Sprintf("P10.2: the writer behind Put, case %d", i), w.Done(), noise(ahead))
		}
		if !check.Put(w, right) {
			t.Error("P10.2: Put behind refused ones: false")
		}
		is(t, "P10.2: Put behind refused ones", w.Done(), slices.Concat(noise(ahead), wantLaid(right)))
	}
}

// P10.2: several, one behind the other, are put and come back in their order.
func TestSeveral(t *testing.T) {
	w := wire.New()
	var want []byte
	for i, size := range sizes {
		if !check.Put(w, unsigned(size, i)) || check.Put(w, api.Signed{}) {
			t.Fatalf("P10.2: Put number %d", i)
		}
		want = append(want, wantLaid(unsigned(size, i))...)
		is(t, "P10.2: several", w.Done(), want)
	}
	r := wire.Read(w.Done())
	for i, size := range sizes {
		s, ok := check.Get(r)
		if !ok || r.Left() != (len(sizes)-i-1)*laidEnd {
			t.Errorf("P10.2: Get number %d: %v, %d bytes left", i, ok, r.Left())
		}
		signedIs(t, "P10.2: several", s, unsigned(size, i))
	}
	if !r.End() {
		t.Error("P10.2: Get of several: not at the end")
	}
}

// R1: a nil writer and a nil reader: the answer's zero value.
func TestNilWritersAndReaders(t *testing.T) {
	if check.Put(nil, unsigned(5, 3)) || check.Put(nil, api.Signed{}) {
		t.Error("R1: Put to a nil writer: true")
	}
	if s, ok := check.Get(nil); ok || !isZero(s) {
		t.Errorf("R1: Get of a nil reader: %v", ok)
	}
}

// P10.2: Get of what Put wrote, with other things ahead of it and behind it that are read, too.
func TestGet(t *testing.T) {
	for i, size := range sizes {
		for index := range api.Keys {
			for _, behind := range []int{0, 1, 4, laidEnd - 1, laidEnd} {
				want := unsigned(size, index)
				w := wire.New()
				w.Num(uint32(i))
				check.Put(w, want)
				w.Raw(noise(behind))
				r := wire.Read(w.Done())
				if got := r.Num(); got != uint32(i) {
					t.Fatalf("P1.3: Num: %d", got)
				}
				s, ok := check.Get(r)
				if !ok || r.Bad() || r.Left() != behind {
					t.Errorf("P10.2: Get of Size %d, key %d: %v, bad %v, %d bytes left, want %d", size, index, ok, r.Bad(), r.Left(), behind)
				}
				signedIs(t, "P10.2: Get", s, want)
				is(t, "P10.2: what is read behind it", r.Raw(behind), noise(behind))
				if !r.End() {
					t.Error("P10.2: all was read: not at the end")
				}
			}
		}
	}
}

// getRefuses holds Get's answer against false, beside which nothing is told.
func getRefuses(t *testing.T, name string, r *wire.Reader) {
	t.Helper()
	if s, ok := check.Get(r); ok || !isZero(s) {
		t.Errorf("P10.2, R3: Get of %s: %v; zero: %v", name, ok, isZero(s))
	}
}

// P10.2, P1.2: what lacks, at each place, whatever the room behind it holds; the reader is bad then, as it is where any of its calls lacks.
func TestGetOfWhatLacks(t *testing.T) {
	for _, s := range []api.Signed{unsigned(5, 3), unsigned(256, 15), unsigned(0, 0), unsigned(257, 3)} {
		b := wantLaid(s)
		for n := range b {
			for _, cut := range [][]byte{b[:n], slices.Clip(b[:n])} {
				r := wire.Read(cut)
				getRefuses(t, fmt.Sprintf("the first %d bytes", n), r)
				if !r.Bad() || r.Left() != 0 {
					t.Errorf("P1.2: Get of the first %d bytes: bad %v, %d left", n, r.Bad(), r.Left())
				}
				getRefuses(t, "a reader that lacked", r)
			}
		}
	}
	for _, nothing := range [][]byte{nil, {}, wantLaid(unsigned(5, 3))[:0]} {
		getRefuses(t, "nothing", wire.Read(nothing))
	}
}

// P10.2: the end of what Put wrote, and what stands behind something that was read.
func TestGetOfARest(t *testing.T) {
	b := wantLaid(unsigned(5, 3))
	for n := 1; n <= len(b); n++ {
		r := wire.Read(b)
		r.Raw(n)
		getRefuses(t, fmt.Sprintf("all from byte %d on", n), r)
	}
}

// P10.2: a reader that is bad already, though it was given all bytes.
func TestGetOfABadReader(t *testing.T) {
	b := wantLaid(unsigned(5, 3))
	for name, spoil := range map[string]func(r *wire.Reader){
		"more asked than there is": func(r *wire.Reader) { r.Raw(len(b) + 1) },
		"less than nothing asked":  func(r *wire.Reader) { r.Raw(-1) },
		"a text that is too long":  func(r *wire.Reader) { r.Raw(4); r.Bytes(0) },
	} {
		r := wire.Read(b)
		spoil(r)
		if !r.Bad() {
			t.Fatalf("P1.2: %s: not bad", name)
		}
		getRefuses(t, "a bad reader: "+name, r)
	}
}

// withNumber tells b with another number of four bytes at a place.
func withNumber(b []byte, at int, n uint32) []byte {
	b = bytes.Clone(b)
	binary.BigEndian.PutUint32(b[at:], n)
	return b
}

// greatNumbers are above all that may be: those too that would be small ones if some of their bytes were left out, or below 0.
var greatNumbers = []uint32{257, 258, 511, 512, 1<<16 - 1, 1 << 16, 1<<16 + 5, 1 << 24, 1<<24 + 5, 1<<31 - 1, 1 << 31, 1<<31 + 5, 1<<32 - 256, 1<<32 - 2, 1<<32 - 1}

// P10.2: what is read whole and is not right, with nothing behind it or more.
func TestGetOfWhatIsNotRight(t *testing.T) {
	b := wantLaid(unsigned(5, 3))
	for _, behind := range []int{0, 1, 3000} {
		for _, n := range greatNumbers {
			getRefuses(t, fmt.Sprintf("Size %d", n), wire.Read(append(withNumber(b, 0, n), noise(behind)...)))
		}
		for _, n := range append([]uint32{16, 17, 31, 32, 255, 256}, greatNumbers...) {
			getRefuses(t, fmt.Sprintf("Index %d", n), wire.Read(append(withNumber(b, indexAt, n), noise(behind)...)))
			getRefuses(t, fmt.Sprintf("Size and Index %d", n), wire.Read(append(withNumber(withNumber(b, 0, n|512), indexAt, n), noise(behind)...)))
		}
	}
}

// P10.2: Encode of what is right: what Put writes, with room behind the lists or without.
func TestEncode(t *testing.T) {
	for size := range api.MaxLeaves + 1 {
		s := unsigned(size, size%api.Keys)
		b := laid(t, s)
		w := wire.New()
		check.Put(w, s)
		is(t, fmt.Sprintf("P10.2: Encode and Put of Size %d", size), b, w.Done())
		is(t, fmt.Sprintf("P10.2: Encode of Size %d", size), b, wantLaid(s))
		is(t, fmt.Sprintf("P10.2: Encode of Size %d, with room", size), laid(t, roomySigned(s)), wantLaid(s))
		if len(b) != 4+32+api.SigSize {
			t.Errorf("P10.2: Encode of Size %d: %d bytes", size, len(b))
		}
	}
}

// P10.2, R3: Encode of what is not: ErrForm and no bytes.
func TestEncodeOfWhatIsNotRight(t *testing.T) {
	for i, s := range wrongSigneds() {
		if b, why := check.Encode(s); why != api.ErrForm || len(b) > 0 {
			t.Errorf("P10.2, R3: Encode of what is not right, case %d: %d bytes, %v", i, len(b), why)
		}
	}
}

// holdDecode holds Decode's answer against what is laid down as these bytes, or against a refusal beside which nothing is told; was it taken?
func holdDecode(t *testing.T, name string, b []byte) bool {
	t.Helper()
	want, ok := wantRead(b)
	s, why := check.Decode(b)
	if !ok {
		if why != api.ErrForm || !isZero(s) {
			t.Errorf("P10.2, R3: Decode of %s: %v; zero: %v", name, why, isZero(s))
		}
		return false
	}
	if why != api.OK || !check.Right(s.Check) || !sign.Right(s.Sig) {
		t.Errorf("P10.2: Decode of %s: %v, Right %v and %v", name, why, check.Right(s.Check), sign.Right(s.Sig))
	}
	signedIs(t, "P10.2: Decode of "+name, s, want)
	again, why := check.Encode(s)
	if why != api.OK {
		t.Errorf("P10.2: what Decode told of %s: Encode %v", name, why)
	}
	is(t, "P10.2: what Decode told, laid down again, of "+name, again, b)
	return true
}

// takes and refuses are holdDecode where the test knows ahead what is asked for.
func takes(t *testing.T, name string, b []byte) {
	t.Helper()
	if !holdDecode(t, name, b) {
		t.Errorf("%s: the test holds it for what no Encode gave", name)
	}
}

func refuses(t *testing.T, name string, b []byte) {
	t.Helper()
	if holdDecode(t, name, b) {
		t.Errorf("%s: the test holds it for what an Encode gave", name)
	}
}

// P10.2: Decode of what Encode gave, of each Size and each Index.
func TestDecode(t *testing.T) {
	for size := range api.MaxLeaves + 1 {
		for _, index := range []int{size % api.Keys, 0, 15} {
			s := unsigned(size, index)
			signedIs(t, "P10.2: Decode of Encode", read(t, laid(t, s)), s)
			takes(t, fmt.Sprintf("Size %d, key %d", size, index), wantLaid(s))
			takes(t, fmt.Sprintf("Size %d, key %d, with room", size, index), roomy(wantLaid(s)))
		}
	}
}

// P10.2, R4, R5: nothing, nil or empty, whatever is in the room behind it.
func TestDecodeOfNothing(t *testing.T) {
	for _, b := range [][]byte{nil, {}, laid(t, unsigned(5, 3))[:0]} {
		refuses(t, "nothing", b)
	}
}

// P10.2: bytes cut off at each place, behind or ahead, or with one missing between.
func TestDecodeOfWhatIsCutOff(t *testing.T) {
	for _, s := range []api.Signed{unsigned(5, 3), unsigned(0, 0), unsigned(256, 15)} {
		b := laid(t, s)
		for n := range b {
			refuses(t, fmt.Sprintf("the first %d bytes", n), b[:n])
			refuses(t, fmt.Sprintf("the first %d bytes, without room", n), slices.Clip(b[:n]))
			refuses(t, fmt.Sprintf("all from byte %d on", n+1), b[n+1:])
			refuses(t, fmt.Sprintf("all but byte %d", n), slices.Delete(bytes.Clone(b), n, n+1))
		}
	}
}

// P10.2: bytes more behind it, one or many, such as would be read as another one too.
func TestDecodeOfMore(t *testing.T) {
	for _, s := range []api.Signed{unsigned(5, 3), unsigned(0, 0), unsigned(256, 15)} {
		b := laid(t, s)
		for more := range 256 {
			refuses(t, fmt.Sprintf("all and byte %d", more), append(bytes.Clone(b), byte(more)))
			refuses(t, fmt.Sprintf("byte %d and all", more), append([]byte{byte(more)}, b...))
		}
		for _, n := range []int{2, 3, 4, 32, 36, api.SigSize, 1000, api.MaxRecord, api.MaxRecord + 1, 1 << 20} {
			refuses(t, fmt.Sprintf("all and %d more", n), append(bytes.Clone(b), noise(n)...))
			refuses(t, fmt.Sprintf("all and %d zeros", n), append(bytes.Clone(b), make([]byte, n)...))
		}
		refuses(t, "two, one behind the other", slices.Concat(b, b))
		refuses(t, "three, one behind the other", slices.Concat(b, b, b))
	}
}

// wantTaken tells how many of the 255 other bytes at a place leave a Size and an Index that may be.
func wantTaken(s api.Signed, at int) int {
	switch {
	case rootAt <= at && at < indexAt, at >= partsAt:
		return 255
	case at == 3 && s.Check.Size < 256:
		return 255
	case at == 2 && s.Check.Size%256 == 0: // 0 as 256, or 256 as 0
		return 1
	case at == partsAt-1:
		return api.Keys - 1
	}
	return 0
}

// P10.2: each byte turned in turn, those of the numbers into each other one, the others bit for bit: what some Encode gave is taken as that, all else is refused.
func TestDecodeOfTurnedBytes(t *testing.T) {
	for _, s := range []api.Signed{unsigned(5, 3), unsigned(0, 0), unsigned(255, 8), unsigned(256, 15)} {
		b := laid(t, s)
		for at := range partsAt {
			taken := 0
			for turn := 1; turn < 256; turn++ {
				other := bytes.Clone(b)
				other[at] ^= byte(turn)
				if holdDecode(t, fmt.Sprintf("Size %d, byte %d as %d", s.Check.Size, at, other[at]), other) {
					taken++
				}
			}
			if want := wantTaken(s, at); taken != want {
				t.Errorf("P10.2: Size %d, byte %d turned: %d taken, want %d", s.Check.Size, at, taken, want)
			}
		}
		for bit := 8 * partsAt; bit < 8*laidEnd; bit++ {
			other := bytes.Clone(b)
			other[bit/8] ^= 1 << (bit % 8)
			takes(t, fmt.Sprintf("Size %d, bit %d turned", s.Check.Size, bit), other)
		}
	}
}

// P10.2: numbers above all that may be, as Size, as Index; and all that two bytes can say.
func TestDecodeOfNumbers(t *testing.T) {
	b := laid(t, unsigned(5, 3))
	for n := range uint32(1 << 12) {
		if took := holdDecode(t, fmt.Sprintf("Size %d", n), withNumber(b, 0, n)); took != (n <= 256) {
			t.Errorf("P10.2: Decode of Size %d: %v", n, took)
		}
		if took := holdDecode(t, fmt.Sprintf("Index %d", n), withNumber(b, indexAt, n)); took != (n < 16) {
			t.Errorf("P10.2: Decode of Index %d: %v", n, took)
		}
	}
	for _, n := range greatNumbers {
		refuses(t, fmt.Sprintf("Size %d", n), withNumber(b, 0, n))
		refuses(t, fmt.Sprintf("Index %d", n), withNumber(b, indexAt, n))
	}
}

// P10.2: a Root or a signature of another length shifts what stands behind it.
func TestDecodeOfShiftedFields(t *testing.T) {
	for n := range 100 {
		s := unsigned(5, 3)
		s.Check.Root = bytes.Repeat([]byte{0}, n)
		if took := holdDecode(t, fmt.Sprintf("a Root of %d bytes", n), wantLaid(s)); took != (n == api.HashSize) {
			t.Errorf("P10.2: Decode of a Root of %d bytes: %v", n, took)
		}
	}
	for i, sig := range wrongSigs(unsigned(5, 3).Sig) {
		if len(bytes.Join(slices.Concat(sig.Parts, sig.Path), nil)) != api.SigSize-4 {
			refuses(t, fmt.Sprintf("a signature of no right form, case %d", i), wantLaid(api.Signed{Check: point(5), Sig: sig}))
		}
	}
}

// P10.2, W5: any bytes of that length and of others are taken or refused as they should be, by Decode and by Get.
func TestDecodeOfAnyBytes(t *testing.T) {
	dice := rand.New(rand.NewSource(10))
	taken := 0
	for round := range 6000 {
		b := make([]byte, laidEnd+max(0, dice.Intn(6)-3)-max(0, dice.Intn(6)-3))
		dice.Read(b)
		copy(b, []byte{0, 0, byte(dice.Intn(2)), byte(dice.Intn(4))}[:dice.Intn(5)])
		copy(b[indexAt:], []byte{0, 0, 0, byte(dice.Intn(20))}[:dice.Intn(5)])
		if dice.Intn(2) == 0 { // so that some may be taken
			copy(b, []byte{0, 0, 0})
			copy(b[indexAt:], []byte{0, 0, 0, byte(dice.Intn(20))})
		}
		name := fmt.Sprintf("any bytes, round %d", round)
		if holdDecode(t, name, b) {
			taken++
		}
		want, ok := wantRead(b[:min(len(b), laidEnd)])
		s, got := check.Get(wire.Read(b))
		if got != ok {
			t.Errorf("P10.2: Get of %s: %v, want %v", name, got, ok)
		}
		signedIs(t, "P10.2: Get of "+name, s, want)
	}
	if taken < 500 {
		t.Errorf("of any bytes %d were taken: the test asks too little", taken)
	}
}
