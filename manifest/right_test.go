package manifest_test

import (
	"fmt"
	"strings"
	"testing"

	"broadsheet/api"
	"broadsheet/manifest"
)

// rightIs holds against what the document asks for: is m right; what is laid down of it, if it is, and the refusal, if not; what comes back.
func rightIs(t *testing.T, name string, m api.Manifest, want bool) {
	t.Helper()
	if wantRight(m) != want {
		t.Fatalf("%s: the test itself says both", name)
	}
	if got := manifest.Right(m); got != want {
		t.Errorf("P9.1: Right: %s: %v, want %v", name, got, want)
	}
	b, why := manifest.Encode(m)
	if !want {
		if why != api.ErrForm || len(b) > 0 {
			t.Errorf("P9.1, R3: Encode: %s: %v, %d bytes", name, why, len(b))
		}
		return
	}
	if why != api.OK {
		t.Errorf("P9.1: Encode: %s: %v", name, why)
	}
	is(t, "P9.1: Encode: "+name, b, wantLaid(m))
	back, why := manifest.Decode(b)
	if why != api.OK {
		t.Errorf("P9.1: Decode of Encode: %s: %v", name, why)
	}
	manifestIs(t, "P9.1: Decode of Encode: "+name, back, m)
}

// P9.1: names of no letters, of each number up to MaxName, and of more.
func TestRightOfNameLengths(t *testing.T) {
	for n := range 3 * api.MaxName {
		rightIs(t, fmt.Sprintf("a name of %d letters", n), of(n, 7), 1 <= n && n <= api.MaxName)
	}
	for _, n := range []int{255, 256, 257, 276, api.MaxRecord, api.MaxRecord + 1, api.MaxRecord + 5, 1 << 20} {
		rightIs(t, fmt.Sprintf("a name of %d letters", n), of(n, 7), false)
	}
	for _, letter := range letters {
		rightIs(t, "one letter, as often as may be", turned(func(m *api.Manifest) { m.Name = strings.Repeat(string(letter), api.MaxName) }), true)
		rightIs(t, "one letter, once more than may be", turned(func(m *api.Manifest) { m.Name = strings.Repeat(string(letter), api.MaxName+1) }), false)
	}
}

// P9.1: each byte as a name's only letter, and at each place among small letters: a to z alone may be there.
func TestRightOfEachByte(t *testing.T) {
	for b := range 256 {
		small := strings.IndexByte(letters, byte(b)) >= 0
		for _, n := range []int{1, 2, 3, 7, api.MaxName - 1, api.MaxName} {
			for at := range n {
				name := []byte(nameOf(n))
				name[at] = byte(b)
				m := turned(func(m *api.Manifest) { m.Name = string(name) })
				rightIs(t, fmt.Sprintf("byte %d at %d of %d letters", b, at, n), m, small)
			}
		}
	}
}

// P9.1: signs of several bytes are no small letters, such as look like one, and such whose number ends as a letter's does, too; nor are bytes that are no sign.
func TestRightOfSigns(t *testing.T) {
	for _, sign := range []string{
		"\u00e9", "\u00df", "\u0161", "\u017a", "\u0430", "\uff41", "\u0101", "\u0261", "\u6161", "\U00010161", "\U0001f680",
		"a\u0301", "\u200b", "\ufeff", "\ufffd", "\xff", "\xc3", "\xa9", "\xc0\xe1", "\xed\xa0\x80", "\x00", "\n", " ", "A", "Z", "@", "[", "`", "{", "0", "-", "_", ".",
	} {
		for _, name := range []string{sign, sign + "pump", "pu" + sign + "mp", "pump" + sign, sign + sign} {
			rightIs(t, fmt.Sprintf("the name %q", name), turned(func(m *api.Manifest) { m.Name = name }), false)
		}
	}
}

// P9.1: Version 0 is none; all others are.
func TestRightOfVersions(t *testing.T) {
	rightIs(t, "Version 0", turned(func(m *api.Manifest) { m.Version = 0 }), false)
	for _, version := range versions {
		rightIs(t, fmt.Sprintf("Version %d", version), turned(func(m *api.Manifest) { m.Version = version }), true)
	}
}

// P9.1, R4, R5: Firmware of each length, nil and empty, with room behind it or not, in which a whole hash may stand.
func TestRightOfFirmware(t *testing.T) {
	for n := range 100 {
		right := n == api.HashSize
		rightIs(t, fmt.Sprintf("Firmware of %d bytes", n), turned(func(m *api.Manifest) { m.Firmware = noise(n) }), right)
		rightIs(t, fmt.Sprintf("Firmware of %d bytes with room", n), turned(func(m *api.Manifest) { m.Firmware = noise(100)[:n] }), right)
	}
	rightIs(t, "nil Firmware", turned(func(m *api.Manifest) { m.Firmware = nil }), false)
	rightIs(t, "empty Firmware", turned(func(m *api.Manifest) { m.Firmware = []byte{} }), false)
	rightIs(t, "Firmware of zeros", turned(func(m *api.Manifest) { m.Firmware = make([]byte, api.HashSize) }), true)
	for _, n := range []int{256, 256 + api.HashSize, 1<<16 + api.HashSize} {
		rightIs(t, fmt.Sprintf("Firmware of %d bytes", n), turned(func(m *api.Manifest) { m.Firmware = noise(n) }), false)
	}
}

// P9.1, R4, R5: Notes of each length up to MaxNotes, and of more, nil and empty, with room behind them or not.
func TestRightOfNotes(t *testing.T) {
	for n := range 3 * api.MaxNotes {
		right := n <= api.MaxNotes
		rightIs(t, fmt.Sprintf("Notes of %d bytes", n), of(4, n), right)
		rightIs(t, fmt.Sprintf("Notes of %d bytes with room", n), turned(func(m *api.Manifest) { m.Notes = noise(300)[:n] }), right)
	}
	rightIs(t, "nil Notes", turned(func(m *api.Manifest) { m.Notes = nil }), true)
	rightIs(t, "empty Notes", turned(func(m *api.Manifest) { m.Notes = []byte{} }), true)
	for _, n := range []int{256, 256 + 7, api.MaxRecord, api.MaxRecord + 1, api.MaxRecord + 8, 1 << 20} {
		rightIs(t, fmt.Sprintf("Notes of %d bytes", n), of(4, n), false)
	}
}

// P9.1: Notes and Firmware may have bytes of any kind.
func TestRightOfAnyBytes(t *testing.T) {
	for b := range 256 {
		all := []byte(strings.Repeat(string([]byte{byte(b)}), api.MaxNotes))
		rightIs(t, fmt.Sprintf("Notes of byte %d", b), turned(func(m *api.Manifest) { m.Notes = all[:1] }), true)
		rightIs(t, fmt.Sprintf("Notes of all bytes %d", b), turned(func(m *api.Manifest) { m.Notes = all }), true)
		rightIs(t, fmt.Sprintf("Firmware of all bytes %d", b), turned(func(m *api.Manifest) { m.Firmware = all[:api.HashSize] }), true)
	}
}

// P9.1: a fault in one field is not made up for by the others; nor is one in all.
func TestRightOfSeveralFaults(t *testing.T) {
	rightIs(t, "a zero Manifest", api.Manifest{}, false)
	rightIs(t, "a Manifest of empty lists", api.Manifest{Firmware: []byte{}, Notes: []byte{}}, false)
	for faults := range 16 {
		m := base()
		if faults&1 != 0 {
			m.Name = "Pump"
		}
		if faults&2 != 0 {
			m.Version = 0
		}
		if faults&4 != 0 {
			m.Firmware = m.Firmware[:31]
		}
		if faults&8 != 0 {
			m.Notes = noise(65)
		}
		rightIs(t, fmt.Sprintf("faults %04b", faults), m, faults == 0)
	}
}
