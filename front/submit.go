package front

import (
	"slices"

	"broadsheet/api"
	"broadsheet/manifest"
)

// Submit tells what becomes of a manifest. The queue's room is asked ahead of the journal: what is written there has a receipt for ever. And b has a receipt only when it is written: what was told no crash may take away.
func (f *Front) Submit(b []byte, now int) api.Answer {
	_, form := manifest.Decode(b)
	leaf, logged := f.log.Find(b)
	switch {
	case form != api.OK:
		return api.Answer{Kind: api.Invalid}
	case logged:
		return api.Answer{Kind: api.Duplicate, Number: leaf}
	case f.queue.Has(b):
		return api.Answer{Kind: api.Accepted, Number: f.receiptOf(b)}
	case f.queue.Len() >= f.room:
		return api.Answer{Kind: api.Busy}
	case f.written.Add(b) != api.OK:
		return api.Answer{Kind: api.Busy}
	}
	f.queue.Put(b, now)
	f.receipts = append(f.receipts, string(b))
	return api.Answer{Kind: api.Accepted, Number: f.Receipts() - 1}
}

// receiptOf tells the receipt of one that waits; of several the first.
func (f *Front) receiptOf(b []byte) int { return slices.Index(f.receipts, string(b)) }
