package journal

import (
	"broadsheet/api"
	"broadsheet/wire"
)

// headSize is how many bytes stand ahead of a record: its length, and the same with all bits turned, by which a length is told from other bytes.
const headSize = 8

// laid tells rec as it lies on a disk.
func laid(rec []byte) []byte {
	length := uint32(len(rec))
	w := wire.New()
	w.Num(length)
	w.Num(^length)
	w.Raw(rec)
	return w.Done()
}

// read tells the whole records at the beginning of all, and how many bytes they take. What is left behind them is torn: a crash leaves the first bytes of a record. Where eight bytes are no length, no crash left them, and where to go on reading is not known: ErrCorrupt.
func read(all []byte) ([][]byte, int, api.Errno) {
	var records [][]byte
	size := 0
	r := wire.Read(all)
	for r.Left() >= headSize {
		length, turned := r.Num(), r.Num()
		if turned != ^length || length > api.MaxRecord {
			return nil, 0, api.ErrCorrupt
		}
		if r.Left() < int(length) {
			break
		}
		records = append(records, r.Raw(int(length)))
		size = len(all) - r.Left()
	}
	return records, size, api.OK
}
