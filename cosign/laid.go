package cosign

import (
	"broadsheet/api"
	"broadsheet/sign"
	"broadsheet/wire"
)

// Put lays g down behind what w holds. All is asked ahead of the first byte, so that nothing half is written.
func Put(w *wire.Writer, g api.Cosig) bool {
	sig, why := sign.Encode(g.Sig)
	if w == nil || why != api.OK || !isWitness(g.Witness) {
		return false
	}
	w.Byte(byte(g.Witness))
	w.Raw(sig)
	return true
}

// Get reads what Put laid down. A reader that lacks bytes gives none, and these are no signature.
func Get(r *wire.Reader) (api.Cosig, bool) {
	if r == nil {
		return api.Cosig{}, false
	}
	witness := int(r.Byte())
	sig, why := sign.Decode(r.Raw(api.SigSize))
	if why != api.OK || !isWitness(witness) {
		return api.Cosig{}, false
	}
	return api.Cosig{Witness: witness, Sig: sig}, true
}
