package sign

import (
	"broadsheet/api"
	"broadsheet/wire"
)

// Encode lays s down. No lengths stand between the hashes: all signatures that are Right have one form.
func Encode(s api.Sig) ([]byte, api.Errno) {
	if !Right(s) {
		return nil, api.ErrForm
	}
	w := wire.New()
	w.Num(uint32(s.Index))
	writeHashes(w, s.Parts)
	writeHashes(w, s.Path)
	return w.Done(), api.OK
}

// Decode reads what Encode laid down. Bytes that have SigSize are read without a lack: the Index alone may then be wrong.
func Decode(b []byte) (api.Sig, api.Errno) {
	if len(b) != api.SigSize {
		return api.Sig{}, api.ErrForm
	}
	r := wire.Read(b)
	var s api.Sig
	s.Index = int(r.Num())
	s.Parts = readHashes(r, partCount)
	s.Path = readHashes(r, api.Height)
	if !Right(s) {
		return api.Sig{}, api.ErrForm
	}
	return s, api.OK
}

func writeHashes(w *wire.Writer, l [][]byte) {
	for _, b := range l {
		w.Raw(b)
	}
}

func readHashes(r *wire.Reader, count int) [][]byte {
	l := make([][]byte, 0, count)
	for range count {
		l = append(l, r.Raw(api.HashSize))
	}
	return l
}
