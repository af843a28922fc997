package sign

import (
	"broadsheet/api"
	"broadsheet/hash"
	"broadsheet/once"
)

// nodeTag keeps sums of nodes apart from the sums of package once.
const nodeTag = 14

// leaves tells the lowest level of an owner's nodes.
func leaves(seed []byte) [][]byte {
	level := make([][]byte, 0, api.Keys)
	for key := range api.Keys {
		level = append(level, once.Public(seed, key))
	}
	return level
}

// above tells the level above one that has an even number of nodes.
func above(level [][]byte) [][]byte {
	higher := make([][]byte, 0, len(level)/2)
	for i := 0; i < len(level); i += 2 {
		higher = append(higher, nodeAbove(level[i], level[i+1]))
	}
	return higher
}

func nodeAbove(left, right []byte) []byte { return hash.Tagged(nodeTag, left, right) }

// pathOf tells what ledUp asks to come from the leaf index to the top: of each node on the way its other one.
func pathOf(seed []byte, index int) [][]byte {
	path := make([][]byte, 0, api.Height)
	level := leaves(seed)
	for range api.Height {
		path = append(path, level[index^1])
		level = above(level)
		index /= 2
	}
	return path
}

// ledUp tells the top node over the leaf index. On each level the lowest bit of index says on which side the way comes up.
func ledUp(leaf []byte, index int, path [][]byte) []byte {
	node := leaf
	for _, other := range path {
		if index%2 == 0 {
			node = nodeAbove(node, other)
		} else {
			node = nodeAbove(other, node)
		}
		index /= 2
	}
	return node
}
