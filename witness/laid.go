package witness

import (
	"broadsheet/api"
	"broadsheet/check"
	"broadsheet/wire"
)

// laid tells the record of a checkpoint. Its signature is not kept: that the log made it was asked ahead.
func laid(c api.Checkpoint) []byte {
	w := wire.New()
	w.Num(uint32(c.Size))
	w.Raw(c.Root)
	return w.Done()
}

// unlaid tells the checkpoint of a record; false of one that is none.
func unlaid(rec []byte) (api.Checkpoint, bool) {
	r := wire.Read(rec)
	c := api.Checkpoint{Size: int(r.Num()), Root: r.Raw(api.HashSize)}
	return c, r.End() && check.Right(c)
}
