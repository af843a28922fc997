package check

import (
	"broadsheet/api"
	"broadsheet/sign"
	"broadsheet/wire"
)

// Encode lays s down.
func Encode(s api.Signed) ([]byte, api.Errno) {
	w := wire.New()
	return told(Put(w, s), w.Done)
}

// Decode reads what Encode laid down, and nothing behind it.
func Decode(b []byte) (api.Signed, api.Errno) {
	r := wire.Read(b)
	s, ok := Get(r)
	if !ok || !r.End() {
		return api.Signed{}, api.ErrForm
	}
	return s, api.OK
}

// Put lays s down behind what w holds. All is asked ahead of the first byte, so that nothing half is written.
func Put(w *wire.Writer, s api.Signed) bool {
	sig, why := sign.Encode(s.Sig)
	if w == nil || why != api.OK || !Right(s.Check) {
		return false
	}
	write(w, s.Check)
	w.Raw(sig)
	return true
}

// Get reads what Put laid down. A reader that lacks bytes gives none, and these are neither a Root nor a signature: what lacks is not Right.
func Get(r *wire.Reader) (api.Signed, bool) {
	if r == nil {
		return api.Signed{}, false
	}
	c := api.Checkpoint{Size: int(r.Num()), Root: r.Raw(api.HashSize)}
	sig, why := sign.Decode(r.Raw(api.SigSize))
	if why != api.OK || !Right(c) {
		return api.Signed{}, false
	}
	return api.Signed{Check: c, Sig: sig}, true
}

// told asks done for what was put, if it was.
func told(put bool, done func() []byte) ([]byte, api.Errno) {
	if !put {
		return nil, api.ErrForm
	}
	return done(), api.OK
}

// write lays down the number and the root of a checkpoint that is Right.
func write(w *wire.Writer, c api.Checkpoint) {
	w.Num(uint32(c.Size))
	w.Raw(c.Root)
}
