package ledger

import (
	"broadsheet/api"
	"broadsheet/proof"
	"broadsheet/tree"
)

// Root tells the root over all leaves.
func (l *Ledger) Root() []byte { return tree.Root(l.leaves(l.Size())) }

// Include proves that the leaf i is among the first size ones.
func (l *Ledger) Include(i, size int) (api.Proof, api.Errno) {
	if !l.isSize(size) {
		return api.Proof{}, api.ErrArg
	}
	return proof.Include(l.leaves(size), i)
}

// Grow proves that the first from leaves are the beginning of the first to ones.
func (l *Ledger) Grow(from, to int) (api.Growth, api.Errno) {
	if !l.isSize(to) {
		return api.Growth{}, api.ErrArg
	}
	return proof.Grow(l.leaves(to), from)
}

// isSize: did the ledger have so many leaves once, or has it now?
func (l *Ledger) isSize(n int) bool { return 0 <= n && n <= l.Size() }

// leaves tells the hashes of the first n items.
func (l *Ledger) leaves(n int) [][]byte {
	hashes := make([][]byte, 0, n)
	for _, item := range l.held.items[:n] {
		hashes = append(hashes, tree.Leaf([]byte(item)))
	}
	return hashes
}
