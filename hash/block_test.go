package hash

import (
	"bytes"
	"encoding/binary"
	"testing"
)

// P2.1, R6: the count of bits behind the padding, up to the longest text that the bound allows; no text so long is made here.
func TestPaddedCountsAllBits(t *testing.T) {
	for _, length := range []int{0, 31, 32, 1<<13 - 1, 1 << 21, 1<<29 - 1, 1 << 29, 1<<31 - 1} {
		rest := bytes.Repeat([]byte{0xaa}, length%blockSize)
		got := padded(rest, length)
		if len(got)%blockSize != 0 || len(got) > 2*blockSize || !bytes.Equal(got[:len(rest)], rest) || got[len(rest)] != 0x80 {
			t.Errorf("P2.1: padded behind %d bytes: %x", length, got)
		}
		if count := binary.BigEndian.Uint64(got[len(got)-lengthSize:]); count != uint64(length)*8 {
			t.Errorf("P2.1: %d bytes are %d bits", length, count)
		}
	}
}
