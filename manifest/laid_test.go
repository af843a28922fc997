package manifest_test

import (
	"bytes"
	"encoding/binary"
	"encoding/hex"
	"fmt"
	"math/rand"
	"slices"
	"testing"

	"broadsheet/api"
	"broadsheet/manifest"
)

// holdDecode holds Decode's answer against the manifest that is laid down as these bytes, or against a refusal beside which nothing is told; was it taken?
func holdDecode(t *testing.T, name string, b []byte) bool {
	t.Helper()
	want, ok := wantRead(b)
	m, why := manifest.Decode(b)
	if !ok {
		if why != api.ErrForm || !alike(m, api.Manifest{}) {
			t.Errorf("P9.1, R3: Decode of %s: %v, %+v", name, why, m)
		}
		return false
	}
	if why != api.OK {
		t.Errorf("P9.1: Decode of %s: %v", name, why)
	}
	manifestIs(t, "P9.1: Decode of "+name, m, want)
	again, why := manifest.Encode(m)
	if why != api.OK || !manifest.Right(m) {
		t.Errorf("P9.1: what Decode told of %s: Encode %v, Right %v", name, why, manifest.Right(m))
	}
	is(t, "P9.1: what Decode told, laid down again, of "+name, again, b)
	return true
}

// takes and refuses are holdDecode where the test knows ahead what is asked for.
func takes(t *testing.T, name string, b []byte) {
	t.Helper()
	if !holdDecode(t, name, b) {
		t.Errorf("%s: the test holds it for what no Encode gave", name)
	}
}

func refuses(t *testing.T, name string, b []byte) {
	t.Helper()
	if holdDecode(t, name, b) {
		t.Errorf("%s: the test holds it for what an Encode gave", name)
	}
}

// P9.1: three manifests, their bytes and their IDs, worked out by another program.
func TestWorkedOutElsewhere(t *testing.T) {
	abc, _ := hex.DecodeString("ba7816bf8f01cfea414140de5dae2223b00361a396177a9cb410ff61f20015ad")
	var counted, high []byte
	for i := range api.HashSize {
		counted = append(counted, byte(i))
	}
	for i := range api.MaxNotes {
		high = append(high, byte(192+i))
	}
	for _, c := range []struct {
		m        api.Manifest
		laid, id string
	}{
		{
			api.Manifest{Name: "pump", Version: 258, Firmware: abc, Notes: []byte("hi")},
			"4d000470756d7000000102ba7816bf8f01cfea414140de5dae2223b00361a396177a9cb410ff61f20015ad00026869",
			"d5156299416c375edd0001e9485dd82f981b313a9a60c96540fcf7d6a31d1b3c",
		},
		{
			api.Manifest{Name: "a", Version: 1, Firmware: make([]byte, 32)},
			"4d0001610000000100000000000000000000000000000000000000000000000000000000000000000000",
			"da79d33af3ee7632fae3bc1e64673763e231405f01ee561992d3a73f84846db0",
		},
		{
			api.Manifest{Name: "abcdefghijklmnopqrst", Version: 0xffffffff, Firmware: counted, Notes: high},
			"4d00146162636465666768696a6b6c6d6e6f7071727374ffffffff000102030405060708090a0b0c0d0e0f101112131415161718191a1b1c1d1e1f0040c0c1c2c3c4c5c6c7c8c9cacbcccdcecfd0d1d2d3d4d5d6d7d8d9dadbdcdddedfe0e1e2e3e4e5e6e7e8e9eaebecedeeeff0f1f2f3f4f5f6f7f8f9fafbfcfdfeff",
			"2fd2f3f7c3f491ba850ec1a7cbbba29df1dffa465373d6a6a59cbb71a6863e94",
		},
	} {
		want, _ := hex.DecodeString(c.laid)
		is(t, "P9.1: Encode of "+c.m.Name, laid(t, c.m), want)
		manifestIs(t, "P9.1: Decode of "+c.m.Name, read(t, want), c.m)
		id, _ := hex.DecodeString(c.id)
		is(t, "P9.1: ID of "+c.m.Name, manifest.ID(want), id)
	}
}

// P9.1: names and notes of each length that may be, there and back; each byte where the chapter lays it.
func TestEncodeAndDecodeOfEachLength(t *testing.T) {
	for name := 1; name <= api.MaxName; name++ {
		for notes := range api.MaxNotes + 1 {
			m := of(name, notes)
			what := fmt.Sprintf("a name of %d, notes of %d", name, notes)
			b := laid(t, m)
			want := slices.Concat([]byte{77, 0, byte(name)}, []byte(m.Name), []byte{1, 2, 3, 4}, m.Firmware, []byte{0, byte(notes)}, m.Notes)
			is(t, "P9.1: Encode: "+what, b, want)
			back := read(t, b)
			manifestIs(t, "P9.1: Decode of Encode: "+what, back, m)
			is(t, "P9.1: Encode of Decode: "+what, laid(t, back), want)
			takes(t, what, want)
			takes(t, what+", with room", roomy(want))
		}
	}
}

// P9.1: a Version's four bytes, the highest first.
func TestEncodeOfVersions(t *testing.T) {
	for _, version := range versions {
		b := laid(t, turned(func(m *api.Manifest) { m.Version = version }))
		is(t, fmt.Sprintf("P9.1: Encode of Version %d", version), b[7:11], binary.BigEndian.AppendUint32(nil, version))
		if got := read(t, b).Version; got != version {
			t.Errorf("P9.1: Decode of Version %d: %d", version, got)
		}
	}
}

// P9.1: Notes that look like a length, like a mark or like a manifest stay what they are.
func TestNotesThatLookLikeOthers(t *testing.T) {
	small := laid(t, of(1, 0))
	for _, notes := range [][]byte{{77}, {0}, {0, 0}, {0, 1, 97}, {255, 255}, small} {
		m := turned(func(m *api.Manifest) { m.Notes = notes })
		manifestIs(t, fmt.Sprintf("P9.1: Notes %x", notes), read(t, laid(t, m)), m)
	}
}

// P9.1, R4, R5: nothing, nil or empty, whatever is in the room behind it.
func TestDecodeOfNothing(t *testing.T) {
	for _, b := range [][]byte{nil, {}, laid(t, base())[:0]} {
		refuses(t, "nothing", b)
	}
}

// P9.1, R5: bytes cut off at each place, behind or ahead, whether or not the rest stands in the room behind them.
func TestDecodeOfWhatIsCutOff(t *testing.T) {
	for _, m := range []api.Manifest{of(1, 0), of(1, 1), base(), of(api.MaxName, api.MaxNotes)} {
		b := laid(t, m)
		for n := range b {
			refuses(t, fmt.Sprintf("the first %d of %d", n, len(b)), b[:n])
			refuses(t, fmt.Sprintf("the first %d of %d, without room", n, len(b)), slices.Clip(b[:n]))
			if n > 0 {
				refuses(t, fmt.Sprintf("all from byte %d of %d on", n, len(b)), b[n:])
			}
		}
		for n := range b {
			refuses(t, fmt.Sprintf("all but byte %d of %d", n, len(b)), slices.Delete(bytes.Clone(b), n, n+1))
		}
	}
}

// P9.1: bytes more behind a manifest, one or many, also such as would go on as its notes or are a manifest themselves.
func TestDecodeOfMore(t *testing.T) {
	for _, m := range []api.Manifest{of(1, 0), base(), of(api.MaxName, api.MaxNotes-1), of(api.MaxName, api.MaxNotes)} {
		b := laid(t, m)
		for more := range 256 {
			refuses(t, fmt.Sprintf("%d bytes and byte %d", len(b), more), append(bytes.Clone(b), byte(more)))
			refuses(t, fmt.Sprintf("byte %d and %d bytes", more, len(b)), append([]byte{byte(more)}, b...))
		}
		for _, n := range []int{2, 3, 42, 64, 65, 1000, api.MaxRecord, api.MaxRecord + 1, 1 << 20} {
			refuses(t, fmt.Sprintf("%d bytes and %d more", len(b), n), append(bytes.Clone(b), noise(n)...))
			refuses(t, fmt.Sprintf("%d bytes and %d zeros", len(b), n), append(bytes.Clone(b), make([]byte, n)...))
		}
		refuses(t, "two, one behind the other", slices.Concat(b, b))
	}
}

// P9.1: each byte turned into each other one: what some Encode gave is taken as that manifest, all else is refused.
func TestDecodeOfTurnedBytes(t *testing.T) {
	for _, m := range []api.Manifest{of(1, 0), base(), of(12, 30), of(api.MaxName, api.MaxNotes)} {
		b := laid(t, m)
		firmware, notes := 3+len(m.Name)+4, fixed+len(m.Name)
		for at := range b {
			taken := 0
			for turn := 1; turn < 256; turn++ {
				other := bytes.Clone(b)
				other[at] ^= byte(turn)
				if holdDecode(t, fmt.Sprintf("%d bytes, byte %d as %d", len(b), at, other[at]), other) {
					taken++
				}
			}
			want := 0 // of the mark, and of the lengths: no other lengths fit these bytes
			switch {
			case 3 <= at && at < 3+len(m.Name):
				want = len(letters) - 1
			case 3+len(m.Name) <= at && at < firmware+api.HashSize, at >= notes:
				want = 255
			}
			if taken != want {
				t.Errorf("P9.1: %d bytes, byte %d turned: %d taken, want %d", len(b), at, taken, want)
			}
		}
	}
}

// P9.1: another first byte than 77.
func TestDecodeOfOtherMarks(t *testing.T) {
	for _, m := range []api.Manifest{of(1, 0), base(), of(api.MaxName, api.MaxNotes)} {
		for mark := range 256 {
			b := laid(t, m)
			b[0] = byte(mark)
			if took := holdDecode(t, fmt.Sprintf("first byte %d", mark), b); took != (mark == 77) {
				t.Errorf("P9.1: Decode, first byte %d: %v", mark, took)
			}
		}
	}
}

// P9.1: each length that two bytes can say, of the name and of the notes, with the same bytes behind it.
func TestDecodeOfWrongLengths(t *testing.T) {
	for _, m := range []api.Manifest{of(1, 0), base(), of(api.MaxName, api.MaxNotes)} {
		b := laid(t, m)
		for length := range 1 << 16 {
			other := bytes.Clone(b)
			binary.BigEndian.PutUint16(other[1:], uint16(length))
			if took := holdDecode(t, fmt.Sprintf("%d bytes, the name's length %d", len(b), length), other); took != (length == len(m.Name)) {
				t.Errorf("P9.1: a name of %d, its length said as %d: %v", len(m.Name), length, took)
			}
			other = bytes.Clone(b)
			binary.BigEndian.PutUint16(other[3+len(m.Name)+4+api.HashSize:], uint16(length))
			if took := holdDecode(t, fmt.Sprintf("%d bytes, the notes' length %d", len(b), length), other); took != (length == len(m.Notes)) {
				t.Errorf("P9.1: notes of %d, their length said as %d: %v", len(m.Notes), length, took)
			}
		}
	}
}

// P9.1: names and notes that are as long as is said, but of no length that may be.
func TestDecodeOfLengthsThatMayNotBe(t *testing.T) {
	refuses(t, "a name of 0 letters", wantLaid(of(0, 7)))
	refuses(t, "a name of 0 letters, no notes", wantLaid(of(0, 0)))
	for _, n := range []int{api.MaxName + 1, api.MaxName + 2, 64, 255, 256, 257, 256 + api.MaxName, 1 << 15, api.MaxRecord} {
		refuses(t, fmt.Sprintf("a name of %d letters", n), wantLaid(of(n, 7)))
	}
	for _, n := range []int{api.MaxNotes + 1, api.MaxNotes + 2, 255, 256, 257, 256 + api.MaxNotes, 1 << 15, api.MaxRecord} {
		refuses(t, fmt.Sprintf("notes of %d bytes", n), wantLaid(of(4, n)))
	}
	takes(t, "the longest of both", wantLaid(of(api.MaxName, api.MaxNotes)))
	takes(t, "the shortest of both", wantLaid(of(1, 0)))
}

// P9.1: names that are laid down as they should be, but have another byte than a to z.
func TestDecodeOfOtherNames(t *testing.T) {
	for b := range 256 {
		small := 97 <= b && b <= 122
		for _, n := range []int{1, 2, 5, api.MaxName} {
			for at := range n {
				name := []byte(nameOf(n))
				name[at] = byte(b)
				m := turned(func(m *api.Manifest) { m.Name = string(name) })
				if took := holdDecode(t, fmt.Sprintf("the name %q", name), wantLaid(m)); took != small {
					t.Errorf("P9.1: Decode of the name %q: %v", name, took)
				}
			}
		}
	}
	for _, name := range []string{"\u00e9", "pu\u00e9mp", "pump\u0161", "Pump", "pu mp", "pump\x00", "\xff\xfe"} {
		refuses(t, fmt.Sprintf("the name %q", name), wantLaid(turned(func(m *api.Manifest) { m.Name = name })))
	}
}

// P9.1: Version 0, and others with some bytes of 0.
func TestDecodeOfVersions(t *testing.T) {
	for _, m := range []api.Manifest{of(1, 0), base(), of(api.MaxName, api.MaxNotes)} {
		m.Version = 0
		refuses(t, "Version 0", wantLaid(m))
		for _, version := range versions {
			m.Version = version
			takes(t, fmt.Sprintf("Version %d", version), wantLaid(m))
		}
	}
}

// P9.1: Firmware has no length of its own: another one shifts what stands behind it.
func TestDecodeOfOtherFirmware(t *testing.T) {
	for n := range 100 {
		m := turned(func(m *api.Manifest) { m.Firmware = bytes.Repeat([]byte{9}, n) })
		if took := holdDecode(t, fmt.Sprintf("Firmware of %d bytes", n), wantLaid(m)); took != (n == api.HashSize) {
			t.Errorf("P9.1: Decode of Firmware of %d bytes: %v", n, took)
		}
	}
}

// P9.1, W5: any bytes, such as begin as a manifest does among them, are taken or refused as they should be.
func TestDecodeOfAnyBytes(t *testing.T) {
	dice := rand.New(rand.NewSource(9))
	taken := 0
	for round := range 40000 {
		b := noise(dice.Intn(140))
		for i := range b {
			if dice.Intn(3) == 0 {
				b[i] = []byte{0, 0, 1, 77, 'a', 'z', 2, 3}[dice.Intn(8)]
			}
		}
		copy(b, []byte{77, 0, byte(dice.Intn(api.MaxName + 3))}[:dice.Intn(4)])
		if dice.Intn(2) == 0 { // so that some are manifests
			b = wantLaid(of(dice.Intn(api.MaxName+3), dice.Intn(api.MaxNotes+3)))
			b[dice.Intn(len(b))] = byte(dice.Intn(256))
		}
		if holdDecode(t, fmt.Sprintf("any bytes, round %d", round), b) {
			taken++
		}
	}
	if taken < 1000 {
		t.Errorf("of any bytes %d were taken: the test asks too little", taken)
	}
}
