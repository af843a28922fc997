package manifest_test

import (
	"bytes"
	"fmt"
	"testing"

	"broadsheet/api"
	"broadsheet/manifest"
)

// spoil writes over b and over the room behind it. What is spoilt several times does not come back.
func spoil(b []byte) {
	b = b[:cap(b)]
	for i := range b {
		b[i]++
	}
}

// spoilAll writes over all that m reaches.
func spoilAll(m api.Manifest) {
	spoil(m.Firmware)
	spoil(m.Notes)
	_, _ = append(m.Firmware, noise(9)...), append(m.Notes, noise(9)...)
}

// roomyManifest tells m with room behind both lists.
func roomyManifest(m api.Manifest) api.Manifest {
	m.Firmware, m.Notes = roomy(m.Firmware), roomy(m.Notes)
	return m
}

// given are manifests that are taken and such as are refused.
func given() []api.Manifest {
	return []api.Manifest{
		base(), of(1, 0), of(api.MaxName, api.MaxNotes), of(0, 7), of(api.MaxName+1, 7), of(4, api.MaxNotes+1), {},
		turned(func(m *api.Manifest) { m.Version = 0 }),
		turned(func(m *api.Manifest) { m.Firmware = noise(31) }),
		turned(func(m *api.Manifest) { m.Firmware = noise(33) }),
	}
}

// R2: manifests that are handed in are not changed, taken or refused, in any length or behind it, nor when what was told is written over.
func TestManifestsStay(t *testing.T) {
	for i, want := range given() {
		m := roomyManifest(want)
		firmware, notes := bytes.Clone(m.Firmware[:cap(m.Firmware)]), bytes.Clone(m.Notes[:cap(m.Notes)])
		for range 2 {
			manifest.Right(m)
			b, why := manifest.Encode(m)
			if (why == api.OK) != wantRight(want) {
				t.Errorf("P9.1: manifest %d with room: Encode %v", i, why)
			}
			_ = append(b, noise(50)...)
			spoil(b)
			manifest.Same(m, m)
			manifest.Same(m, want)
			manifest.Same(base(), m)
			manifest.Newer(m, want)
			manifest.Newer(base(), m)
		}
		is(t, fmt.Sprintf("R2: manifest %d, Firmware and the room behind it", i), m.Firmware[:cap(m.Firmware)], firmware)
		is(t, fmt.Sprintf("R2: manifest %d, Notes and the room behind them", i), m.Notes[:cap(m.Notes)], notes)
		manifestIs(t, fmt.Sprintf("R2: manifest %d", i), m, want)
	}
}

// R2: bytes that Decode and ID are handed are not changed, taken or refused, in their length or behind it, nor when what was told is written over.
func TestBytesStay(t *testing.T) {
	for i, m := range given() {
		whole := append(wantLaid(m), noise(50)...)
		b := bytes.Clone(whole)
		for n := range whole {
			back, _ := manifest.Decode(b[:n])
			spoilAll(back)
			id := manifest.ID(b[:n])
			_ = append(id, noise(50)...)
			spoil(id)
		}
		is(t, fmt.Sprintf("R2: the bytes of manifest %d and the room behind them", i), b, whole)
	}
}

// R2: what was given may be changed afterwards: no answer hangs on it any more.
func TestNothingIsKept(t *testing.T) {
	for name := 1; name <= api.MaxName; name++ {
		for _, notes := range []int{0, 1, 31, 32, 33, api.MaxNotes} {
			what := fmt.Sprintf("a name of %d, notes of %d", name, notes)
			want := of(name, notes)
			m := roomyManifest(want)
			b := laid(t, m)
			spoilAll(m)
			is(t, "R2: Encode, its manifest changed: "+what, b, wantLaid(want))
			b = roomy(b)
			back, id := read(t, b), manifest.ID(b)
			spoil(b)
			manifestIs(t, "R2: Decode, its bytes changed: "+what, back, want)
			is(t, "R2: ID, its bytes changed: "+what, id, wantID(wantLaid(want)))
			is(t, "R2: ID of changed bytes: "+what, manifest.ID(b), wantID(b))
			if manifest.Same(m, want) {
				t.Errorf("R2: a changed manifest is the Same: %s", what)
			}
		}
	}
}

// R2, R4: who asked may write into answers, and into the room behind them: neither what was given nor any other answer changes.
func TestAnswersAreNewMemory(t *testing.T) {
	for notes := range api.MaxNotes + 1 {
		m := of(notes%api.MaxName+1, notes)
		want := copied(m)
		wantBytes := wantLaid(want)
		kept, keptBack, keptID := laid(t, m), read(t, wantBytes), manifest.ID(wantBytes)
		for range 3 {
			b := laid(t, m)
			is(t, "R2: Encode again", b, wantBytes)
			back, id := read(t, b), manifest.ID(b)
			manifestIs(t, "R2: Decode again", back, want)
			is(t, "R2: ID again", id, wantID(wantBytes))
			spoilAll(back)
			spoil(id)
			is(t, "R2: bytes whose manifest and ID were written over", b, wantBytes)
			_ = append(b, noise(50)...)
			spoil(b)
			manifestIs(t, "R2: the manifest of bytes that were written over", m, want)
		}
		is(t, "R2: Encode, other answers written over", kept, wantBytes)
		manifestIs(t, "R2: Decode, other answers written over", keptBack, want)
		is(t, "R2: ID, other answers written over", keptID, wantID(wantBytes))
	}
}

// R2: Firmware and Notes of one answer share no memory, the room behind them included.
func TestListsShareNoMemory(t *testing.T) {
	for name := 1; name <= api.MaxName; name++ {
		for notes := range api.MaxNotes + 1 {
			what := fmt.Sprintf("a name of %d, notes of %d", name, notes)
			want := of(name, notes)
			m := read(t, wantLaid(want))
			_ = append(m.Firmware, noise(100)...)
			spoil(m.Firmware)
			is(t, "R2: Firmware written over: the Notes: "+what, m.Notes, want.Notes)
			m = read(t, wantLaid(want))
			_ = append(m.Notes, noise(100)...)
			spoil(m.Notes)
			is(t, "R2: Notes written over: the Firmware: "+what, m.Firmware, want.Firmware)
		}
	}
}

// R2: what is handed in may be one memory: Firmware that goes on as Notes, lists of both manifests.
func TestOneMemoryForAll(t *testing.T) {
	all := noise(100)
	m := api.Manifest{Name: "pump", Version: 1, Firmware: all[:32], Notes: all[16:80]}
	b := laid(t, m)
	is(t, "R2: Encode of lists that share memory", b, wantLaid(m))
	if !manifest.Same(m, m) || manifest.Newer(m, m) {
		t.Error("P9.1, P9.2: a manifest and itself")
	}
	spoil(b)
	is(t, "R2: lists that share memory", all, noise(100))
}

// R3: a refused call leaves nothing behind: what is asked next is answered as ever.
func TestRefusalsChangeNothing(t *testing.T) {
	b := laid(t, base())
	for n := range b {
		manifest.Decode(b[:n])
		manifest.Decode(append(bytes.Clone(b), noise(n+1)...))
		manifest.Encode(turned(func(m *api.Manifest) { m.Firmware = noise(n % 32) }))
		manifestIs(t, "R3: Decode behind refusals", read(t, b), base())
		is(t, "R3: Encode behind refusals", laid(t, base()), wantLaid(base()))
	}
}
