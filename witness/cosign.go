package witness

import (
	"bytes"

	"broadsheet/api"
	"broadsheet/check"
	"broadsheet/cosign"
	"broadsheet/hash"
	"broadsheet/proof"
)

// Cosign tells the witness's signature of a checkpoint that its log signed, and that grows from the last one. That it is the last one now is written ahead of all that is told of it: a crash must not bring back the one from which another log could grow.
func (w *Witness) Cosign(s api.Signed, g api.Growth) (api.Cosig, api.Errno) {
	if !check.Verify(w.log, s) {
		return api.Cosig{}, api.ErrSign
	}
	if s.Check.Size < w.last.Size {
		return api.Cosig{}, api.ErrOld
	}
	if s.Check.Size == w.last.Size && !hash.Same(s.Check.Root, w.last.Root) {
		return api.Cosig{}, api.ErrFork
	}
	if why := w.moveTo(s.Check, g); why != api.OK {
		return api.Cosig{}, why
	}
	if why := w.signLast(); why != api.OK {
		return api.Cosig{}, why
	}
	return copyOf(*w.given), api.OK
}

// moveTo makes c, which is not smaller than the last checkpoint, the last one. What was given is of the one ahead of it: it goes, so that it is told for no other one, whether a key can be taken now or not.
func (w *Witness) moveTo(c api.Checkpoint, g api.Growth) api.Errno {
	if c.Size == w.last.Size {
		return api.OK
	}
	if g.From != w.last.Size || g.To != c.Size || !proof.CheckGrow(g, w.last.Root, c.Root) {
		return api.ErrProof
	}
	if why := w.written.Add(laid(c)); why != api.OK {
		return why
	}
	w.last, w.given = copyOfCheck(c), nil
	return api.OK
}

// signLast signs the last checkpoint, unless it was signed. The key is taken ahead of signing: one that a crash could give back would sign twice.
func (w *Witness) signLast() api.Errno {
	if w.given != nil {
		return api.OK
	}
	key, why := w.box.Take()
	if why != api.OK {
		return why
	}
	given, why := cosign.Sign(w.seed, key, w.id, w.last)
	if why != api.OK {
		return why
	}
	w.given = &given
	return api.OK
}

// copyOf is g in new memory: it is told again and again.
func copyOf(g api.Cosig) api.Cosig {
	return api.Cosig{Witness: g.Witness, Sig: api.Sig{Index: g.Sig.Index, Parts: copyOfEach(g.Sig.Parts), Path: copyOfEach(g.Sig.Path)}}
}

// copyOfEach is l, and each of its texts, in new memory.
func copyOfEach(l [][]byte) [][]byte {
	copies := make([][]byte, 0, len(l))
	for _, b := range l {
		copies = append(copies, bytes.Clone(b))
	}
	return copies
}

// copyOfCheck is c in new memory.
func copyOfCheck(c api.Checkpoint) api.Checkpoint {
	return api.Checkpoint{Size: c.Size, Root: bytes.Clone(c.Root)}
}
