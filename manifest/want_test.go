package manifest_test

import (
	"bytes"
	"crypto/sha256"
	"encoding/binary"
	"math/rand"
	"strings"
	"testing"

	"broadsheet/api"
	"broadsheet/manifest"
)

// letters are all that a name may have.
const letters = "abcdefghijklmnopqrstuvwxyz"

// fixed is how many bytes are laid down beside those of the Name and of the Notes.
const fixed = 1 + 2 + 4 + api.HashSize + 2

// versions are such as may be, in their order: those at which a byte more is needed or a sign bit would be set, too.
var versions = []uint32{1, 2, 127, 128, 255, 256, 258, 1<<16 - 1, 1 << 16, 1<<24 - 1, 1 << 24, 1<<31 - 1, 1 << 31, 1<<31 + 1, 1<<32 - 2, 1<<32 - 1}

// The chapter's words written down once more, by the library's means, for the program to be held against.

func wantRight(m api.Manifest) bool {
	return m.Name != "" && len(m.Name) <= 20 && strings.Trim(m.Name, letters) == "" && m.Version != 0 && len(m.Firmware) == 32 && len(m.Notes) <= 64
}

// wantLaid lays down what is not right, too, as long as the lengths have two bytes.
func wantLaid(m api.Manifest) []byte {
	b := []byte{77}
	b = binary.BigEndian.AppendUint16(b, uint16(len(m.Name)))
	b = append(b, m.Name...)
	b = binary.BigEndian.AppendUint32(b, m.Version)
	b = append(b, m.Firmware...)
	b = binary.BigEndian.AppendUint16(b, uint16(len(m.Notes)))
	return append(b, m.Notes...)
}

// wantRead tries each length that a name may have: which right manifest is laid down as just these bytes? The program goes by the lengths that stand there.
func wantRead(b []byte) (api.Manifest, bool) {
	for name := 1; name <= 20 && fixed+name <= len(b); name++ {
		rest := b[3+name:]
		m := api.Manifest{Name: string(b[3 : 3+name]), Version: binary.BigEndian.Uint32(rest), Firmware: rest[4:36], Notes: rest[38:]}
		if wantRight(m) && bytes.Equal(wantLaid(m), b) {
			return m, true
		}
	}
	return api.Manifest{}, false
}

func wantID(b []byte) []byte {
	s := sha256.Sum256(append([]byte{0}, b...))
	return s[:]
}

// noise tells n bytes that are the same at each run.
func noise(n int) []byte {
	b := make([]byte, n)
	rand.New(rand.NewSource(int64(n) + 1)).Read(b)
	return b
}

// nameOf tells a name of n small letters, of which those that lie side by side are unlike.
func nameOf(n int) string {
	return strings.Repeat(letters, n/len(letters)+1)[:n]
}

// of tells a manifest by the lengths of its name and of its notes.
func of(name, notes int) api.Manifest {
	return api.Manifest{Name: nameOf(name), Version: 0x01020304, Firmware: noise(api.HashSize), Notes: noise(notes)}
}

// base tells a manifest that is right, in memory of its own.
func base() api.Manifest { return of(4, 7) }

// turned tells base with one change.
func turned(change func(m *api.Manifest)) api.Manifest {
	m := base()
	change(&m)
	return m
}

// roomy tells b with room behind it, in which bytes stand.
func roomy(b []byte) []byte { return append(bytes.Clone(b), noise(50)...)[:len(b)] }

// copied tells m in memory of its own.
func copied(m api.Manifest) api.Manifest {
	return api.Manifest{Name: strings.Clone(m.Name), Version: m.Version, Firmware: bytes.Clone(m.Firmware), Notes: bytes.Clone(m.Notes)}
}

func alike(a, b api.Manifest) bool {
	return a.Name == b.Name && a.Version == b.Version && bytes.Equal(a.Firmware, b.Firmware) && bytes.Equal(a.Notes, b.Notes)
}

// is holds bytes against those that the document asks for.
func is(t *testing.T, name string, got, want []byte) {
	t.Helper()
	if !bytes.Equal(got, want) {
		t.Errorf("%s: %x, want %x", name, got, want)
	}
}

// manifestIs holds a manifest against the one that the document asks for, in each field.
func manifestIs(t *testing.T, name string, got, want api.Manifest) {
	t.Helper()
	if !alike(got, want) {
		t.Errorf("%s: %+v, want %+v", name, got, want)
	}
}

// laid tells what the program lays down: manifests that are not right end the test.
func laid(t *testing.T, m api.Manifest) []byte {
	t.Helper()
	b, why := manifest.Encode(m)
	if why != api.OK {
		t.Fatalf("P9.1: Encode of %+v: %v", m, why)
	}
	return b
}

// read tells what the program reads: bytes that it refuses end the test.
func read(t *testing.T, b []byte) api.Manifest {
	t.Helper()
	m, why := manifest.Decode(b)
	if why != api.OK {
		t.Fatalf("P9.1: Decode of %x: %v", b, why)
	}
	return m
}
