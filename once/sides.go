package once

import "broadsheet/api"

// teller tells the part of one side: it is Secret or Shown.
type teller func(seed []byte, key, bit, side int) []byte

// bitTellers has one teller for each side of a bit.
type bitTellers [sides]teller

// partsOf tells the parts of all bits, side behind side, each by the teller that choose gives it.
func partsOf(seed []byte, key int, choose func(bit int) bitTellers) [][]byte {
	parts := make([][]byte, 0, partCount)
	for bit := range api.Bits {
		for side, tell := range choose(bit) {
			parts = append(parts, tell(seed, key, bit, side))
		}
	}
	return parts
}

// bothShown gives no secret away, whatever the bit.
func bothShown(bit int) bitTellers { return bitTellers{Shown, Shown} }

// signers gives the secret of the side that the digest has at that bit away, and no other.
func signers(digest uint32, bit int) bitTellers {
	tellers := bothShown(bit)
	tellers[sideOf(digest, bit)] = Secret
	return tellers
}

// sideOf tells which side of a bit the digest has; bit 0 is its highest.
func sideOf(digest uint32, bit int) int {
	return int(digest >> (api.Bits - 1 - bit) & 1)
}
