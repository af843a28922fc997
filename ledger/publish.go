package ledger

import (
	"bytes"

	"broadsheet/api"
	"broadsheet/check"
)

// Publish tells a signed checkpoint of all leaves. Keys are few: one size is signed once.
func (l *Ledger) Publish() (api.Signed, api.Errno) {
	if l.last == nil || l.last.Check.Size != l.Size() {
		if why := l.signNow(); why != api.OK {
			return api.Signed{}, why
		}
	}
	return copyOf(*l.last), api.OK
}

// signNow makes the checkpoint of all leaves the last one. The key is taken ahead of signing: one that a crash could give back would sign twice.
func (l *Ledger) signNow() api.Errno {
	key, why := l.box.Take()
	if why != api.OK {
		return why
	}
	s, why := check.Sign(l.seed, key, api.Checkpoint{Size: l.Size(), Root: l.Root()})
	if why != api.OK {
		return why
	}
	l.last = &s
	return api.OK
}

// Last tells what was published last since Open.
func (l *Ledger) Last() (api.Signed, bool) {
	if l.last == nil {
		return api.Signed{}, false
	}
	return copyOf(*l.last), true
}

// copyOf is s in new memory: the ledger tells its last one again and again.
func copyOf(s api.Signed) api.Signed {
	return api.Signed{
		Check: api.Checkpoint{Size: s.Check.Size, Root: bytes.Clone(s.Check.Root)},
		Sig:   api.Sig{Index: s.Sig.Index, Parts: copyOfEach(s.Sig.Parts), Path: copyOfEach(s.Sig.Path)},
	}
}

// copyOfEach is l, and each of its texts, in new memory.
func copyOfEach(l [][]byte) [][]byte {
	copies := make([][]byte, 0, len(l))
	for _, b := range l {
		copies = append(copies, bytes.Clone(b))
	}
	return copies
}
