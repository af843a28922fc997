package compact

import "broadsheet/api"

// list gathers nodes. It keeps the memory that it is handed.
type list [][]byte

func (l *list) add(node []byte) { *l = append(*l, node) }

// takeLast takes the last node away and tells it. Its place is cleared, so that the room behind the list keeps no node that is gone.
func (l *list) takeLast() []byte {
	last := len(*l) - 1
	node := (*l)[last]
	(*l)[last] = nil
	*l = (*l)[:last]
	return node
}

// areHashes: has each node a hash's size?
func areHashes(nodes [][]byte) bool {
	for _, node := range nodes {
		if len(node) != api.HashSize {
			return false
		}
	}
	return true
}

// copyOf is b in new memory.
func copyOf(b []byte) []byte { return append([]byte{}, b...) }
