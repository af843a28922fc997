package manifest_test

import (
	"bytes"
	"fmt"
	"testing"

	"broadsheet/api"
	"broadsheet/manifest"
	"broadsheet/tree"
)

// sameIs holds Same's answer, asked both ways, against what the document asks for.
func sameIs(t *testing.T, name string, a, b api.Manifest, want bool) {
	t.Helper()
	if manifest.Same(a, b) != want || manifest.Same(b, a) != want {
		t.Errorf("P9.1: Same: %s: %v and %v, want %v", name, manifest.Same(a, b), manifest.Same(b, a), want)
	}
}

// newerIs holds Newer's answers, both ways, against what the document asks for.
func newerIs(t *testing.T, name string, a, b api.Manifest, want, wantBack bool) {
	t.Helper()
	if got, back := manifest.Newer(a, b), manifest.Newer(b, a); got != want || back != wantBack {
		t.Errorf("P9.2: Newer: %s: %v, the other way round %v; want %v, %v", name, got, back, want, wantBack)
	}
}

// P9.1: ID is tree.Leaf of bytes of any length, of nothing, and of what is a manifest or is none.
func TestID(t *testing.T) {
	idIs := func(name string, b []byte) {
		is(t, "P9.1: ID of "+name, manifest.ID(b), wantID(b))
		is(t, "P9.1: ID and Leaf of "+name, manifest.ID(b), tree.Leaf(b))
	}
	for n := range 200 {
		idIs(fmt.Sprintf("%d bytes", n), noise(n))
		idIs(fmt.Sprintf("%d bytes with room", n), roomy(noise(n)))
	}
	for _, none := range [][]byte{nil, {}, noise(9)[:0]} {
		idIs("nothing", none)
	}
	for notes := range api.MaxNotes + 1 {
		b := laid(t, of(notes%api.MaxName+1, notes))
		idIs("a manifest", b)
		idIs("a manifest that is cut off", b[:len(b)-1])
		idIs("a manifest and a byte more", append(b, 0))
	}
	idIs("a long text", noise(api.MaxRecord+1))
}

// P9.1: manifests that are not the same have no ID in common.
func TestIDTellsManifests(t *testing.T) {
	b := laid(t, base())
	for at := range b {
		for bit := range 8 {
			other := bytes.Clone(b)
			other[at] ^= 1 << bit
			if bytes.Equal(manifest.ID(other), manifest.ID(b)) {
				t.Errorf("P9.1: ID, bit %d of byte %d turned: the same", bit, at)
			}
		}
	}
}

// P9.1, R4, R5: alike in other memory, with room or without, with nil or empty lists.
func TestSameOfAlike(t *testing.T) {
	m := base()
	sameIs(t, "itself", m, m, true)
	sameIs(t, "a copy", m, copied(m), true)
	sameIs(t, "what comes back from bytes", m, read(t, laid(t, m)), true)
	sameIs(t, "a copy with room", m, turned(func(m *api.Manifest) { m.Firmware, m.Notes = roomy(m.Firmware), roomy(m.Notes) }), true)
	for _, none := range [][]byte{nil, {}, noise(40)[:0]} {
		sameIs(t, "no lists and empty ones", api.Manifest{}, api.Manifest{Firmware: none, Notes: none}, true)
		noFirmware, noNotes := base(), base()
		noFirmware.Firmware, noNotes.Notes = none, none
		sameIs(t, "no Firmware", noFirmware, turned(func(m *api.Manifest) { m.Firmware = nil }), true)
		sameIs(t, "no Notes", noNotes, turned(func(m *api.Manifest) { m.Notes = nil }), true)
		sameIs(t, "Firmware and none", noFirmware, m, false)
		sameIs(t, "Notes and none", noNotes, m, false)
	}
}

// P9.1: manifests that are not right are the same, too, where they are alike, and are not where not.
func TestSameOfWrongForms(t *testing.T) {
	sameIs(t, "zero ones", api.Manifest{}, api.Manifest{}, true)
	sameIs(t, "a zero one and a right one", api.Manifest{}, base(), false)
	wrong := []api.Manifest{
		turned(func(m *api.Manifest) { m.Name = "" }),
		turned(func(m *api.Manifest) { m.Name = "\xff" }),
		turned(func(m *api.Manifest) { m.Name = "\xfe" }),
		turned(func(m *api.Manifest) { m.Name = "\ufffd" }),
		turned(func(m *api.Manifest) { m.Name = nameOf(1000) }),
		turned(func(m *api.Manifest) { m.Name = nameOf(1001) }),
		turned(func(m *api.Manifest) { m.Version = 0 }),
		turned(func(m *api.Manifest) { m.Firmware = noise(31) }),
		turned(func(m *api.Manifest) { m.Firmware = noise(1000) }),
		turned(func(m *api.Manifest) { m.Notes = noise(65) }),
		turned(func(m *api.Manifest) { m.Notes = noise(api.MaxRecord + 1) }),
		turned(func(m *api.Manifest) { m.Notes = noise(api.MaxRecord + 1)[:api.MaxRecord] }),
	}
	for i, a := range wrong {
		for j, b := range wrong {
			sameIs(t, fmt.Sprintf("wrong forms %d and %d", i, j), a, copied(b), i == j)
		}
	}
}

// P9.1: each field unlike in turn: a letter, a bit, a length.
func TestSameOfUnlike(t *testing.T) {
	m := base()
	for _, name := range []string{"", "a", "abc", "abcde", "abcx", "xbcd", "Abcd", "abcD", "dcba", "abc\x00", "abcd\x00"} {
		sameIs(t, fmt.Sprintf("the name %q", name), m, turned(func(m *api.Manifest) { m.Name = name }), false)
	}
	for bit := range 32 {
		sameIs(t, fmt.Sprintf("bit %d of Version", bit), m, turned(func(m *api.Manifest) { m.Version ^= 1 << bit }), false)
	}
	for bit := range 8 * api.HashSize {
		sameIs(t, fmt.Sprintf("bit %d of Firmware", bit), m, turned(func(m *api.Manifest) { m.Firmware[bit/8] ^= 1 << (bit % 8) }), false)
	}
	for bit := range 8 * len(m.Notes) {
		sameIs(t, fmt.Sprintf("bit %d of Notes", bit), m, turned(func(m *api.Manifest) { m.Notes[bit/8] ^= 1 << (bit % 8) }), false)
	}
	for n := range api.HashSize {
		sameIs(t, fmt.Sprintf("%d bytes of Firmware", n), m, turned(func(m *api.Manifest) { m.Firmware = m.Firmware[:n] }), false)
	}
	for n := range len(m.Notes) {
		sameIs(t, fmt.Sprintf("%d bytes of Notes", n), m, turned(func(m *api.Manifest) { m.Notes = m.Notes[:n] }), false)
	}
	sameIs(t, "a zero more in Firmware", m, turned(func(m *api.Manifest) { m.Firmware = append(m.Firmware, 0) }), false)
	sameIs(t, "a zero more in Notes", m, turned(func(m *api.Manifest) { m.Notes = append(m.Notes, 0) }), false)
	sameIs(t, "Firmware and Notes swapped", m, turned(func(m *api.Manifest) { m.Firmware, m.Notes = m.Notes, m.Firmware }), false)
	sameIs(t, "parted a byte later", m, turned(func(m *api.Manifest) { m.Firmware, m.Notes = append(m.Firmware, m.Notes[0]), m.Notes[1:] }), false)
}

// P9.2: of one name, each two versions: the greater one is newer, and none is newer than itself.
func TestNewer(t *testing.T) {
	all := append([]uint32{0}, versions...) // 0 is not right, but is asked for no more than others are
	for _, name := range []string{"a", "pump", nameOf(api.MaxName), "", "\xff", nameOf(1000)} {
		for i, first := range all {
			for j, second := range all {
				a, b := base(), base()
				a.Name, b.Name, a.Version, b.Version = name, string([]byte(name)), first, second
				newerIs(t, fmt.Sprintf("%d and %d of %q", first, second, name), a, b, i > j, j > i)
			}
		}
	}
}

// P9.2: of two names none is newer, one that is a beginning of the other, or is like it but for one letter, too.
func TestNewerOfTwoNames(t *testing.T) {
	names := []string{"", "p", "pump", "pumps", "pumq", "qump", "Pump", "pump\x00", "\xff", "\xfe", "\ufffd", nameOf(20), nameOf(21), nameOf(1000)}
	for _, first := range names {
		for _, second := range names {
			for _, version := range []uint32{0, 1, 5, 1<<32 - 1} {
				a, b := base(), base()
				a.Name, b.Name, a.Version, b.Version = first, second, 5, version
				same := first == second
				newerIs(t, fmt.Sprintf("%q 5 and %q %d", first, second, version), a, b, same && version < 5, same && version > 5)
			}
		}
	}
}

// P9.2: Firmware and Notes are not asked, alike or not, right or not.
func TestNewerByNothingElse(t *testing.T) {
	for _, first := range [][]byte{nil, {}, {0}, noise(32), noise(65)} {
		for _, second := range [][]byte{nil, {}, {255}, noise(32), noise(65)} {
			a, b := base(), base()
			a.Firmware, a.Notes, b.Firmware, b.Notes = first, second, second, first
			newerIs(t, "one version", a, b, false, false)
			b.Version++
			newerIs(t, "a version below", a, b, false, true)
		}
	}
	newerIs(t, "zero ones", api.Manifest{}, api.Manifest{}, false, false)
	newerIs(t, "a zero one and a right one", api.Manifest{}, base(), false, false)
}
