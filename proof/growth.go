package proof

import (
	"bytes"

	"broadsheet/api"
	"broadsheet/hash"
	"broadsheet/tree"
)

// Grow proves that the tree of the first from leaves is a beginning of that of all. From none and from all on there is nothing to prove: the roots alone tell it.
func Grow(leaves [][]byte, from int) (api.Growth, api.Errno) {
	if from < 0 || from > len(leaves) {
		return api.Growth{}, api.ErrArg
	}
	g := api.Growth{From: from, To: len(leaves)}
	if from > 0 {
		g.Path = growthPath(leaves, from, true)
	}
	return g, api.OK
}

// Leads tells both roots that old and the path lead to. Unless From is a power of two, the path alone leads to that of the first leaves, whatever old is: who asks holds it against old.
func Leads(g api.Growth, old []byte) ([]byte, []byte, bool) {
	if !Right(g.Path) || g.From <= 0 || g.From >= g.To || !isHash(old) {
		return nil, nil, false
	}
	if len(g.Path) != growthCount(g.From, g.To, true) {
		return nil, nil, false
	}
	first, all := growthRoots(g.Path, old, g.From, g.To, true)
	// first may be old itself; all is a node over more leaves, and new.
	return bytes.Clone(first), all, true
}

// CheckGrow: is the tree of old a beginning of that of now?
func CheckGrow(g api.Growth, old, now []byte) bool {
	switch {
	case g.From < 0 || g.From > g.To:
		return false
	case g.From == g.To:
		return len(g.Path) == 0 && isHash(old) && hash.Same(old, now)
	case g.From == 0:
		return len(g.Path) == 0 && hash.Same(old, hash.Sum(nil)) && isHash(now)
	}
	first, all, ok := Leads(g, old)
	return ok && hash.Same(first, old) && hash.Same(all, now)
}

// growthPath is RFC 6962's SUBPROOF. wholeOld: the first from of these leaves are all that the old tree had, so that its root, which who asks has, is left out.
func growthPath(leaves [][]byte, from int, wholeOld bool) [][]byte {
	if from == len(leaves) {
		if wholeOld {
			return nil
		}
		return [][]byte{tree.Root(leaves)}
	}
	half := tree.Split(len(leaves))
	if from <= half {
		return append(growthPath(leaves[:half], from, wholeOld), tree.Root(leaves[half:]))
	}
	return append(growthPath(leaves[half:], from-half, false), tree.Root(leaves[:half]))
}

// growthCount tells how many hashes growthPath of so many leaves has.
func growthCount(from, to int, wholeOld bool) int {
	if from == to {
		if wholeOld {
			return 0
		}
		return 1
	}
	half := tree.Split(to)
	if from <= half {
		return growthCount(from, half, wholeOld) + 1
	}
	return growthCount(from-half, to-half, false) + 1
}

// growthRoots tells the roots of the first from and of all to leaves of which path has just as many hashes as growthCount tells.
func growthRoots(path [][]byte, old []byte, from, to int, wholeOld bool) (first, all []byte) {
	if from == to {
		if wholeOld {
			return old, old
		}
		return path[0], path[0]
	}
	half := tree.Split(to)
	rest, other := withoutLast(path)
	if from <= half {
		first, all = growthRoots(rest, old, from, half, wholeOld)
		return first, tree.Node(all, other)
	}
	first, all = growthRoots(rest, old, from-half, to-half, false)
	return tree.Node(other, first), tree.Node(other, all)
}
