package ledger

import (
	"broadsheet/api"
	"broadsheet/wire"
)

// laid tells the record of a batch; false of an item that is longer than any record. Whether the whole is too long, the journal asks.
func laid(items []string) ([]byte, bool) {
	w := wire.New()
	w.Num(uint32(len(items)))
	for _, item := range items {
		if !w.Bytes([]byte(item)) {
			return nil, false
		}
	}
	return w.Done(), true
}

// unlaid tells the items of a record; false of one that is no batch. The count is believed only as far as items follow: it may be any number.
func unlaid(rec []byte) ([][]byte, bool) {
	r := wire.Read(rec)
	var items [][]byte
	for n := r.Num(); n > 0 && !r.Bad(); n-- {
		items = append(items, r.Bytes(api.MaxRecord))
	}
	return items, len(items) > 0 && r.End()
}

// gathered tells the items of all records; false, unless Adds could have left these.
func gathered(records [][]byte) (*shelf, bool) {
	held := newShelf()
	for _, rec := range records {
		items, ok := unlaid(rec)
		if !ok {
			return nil, false
		}
		for _, item := range items {
			if _, twice := held.put(string(item)); twice {
				return nil, false
			}
		}
	}
	return held, held.size() <= api.MaxLeaves
}
