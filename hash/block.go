package hash

import "math/bits"

// Sizes of FIPS 180-4: of a block and of the length behind the padding, in bytes; of a block, in words; how many rounds a block takes.
const (
	blockSize  = 64
	lengthSize = 8
	blockWords = 16
	rounds     = 64
)

// words are what is handed on from block to block, and what a sum is made of.
type words [8]uint32

// roundWords are the first 32 bits behind the point of the cube roots of the first 64 primes.
var roundWords = [rounds]uint32{
	0x428a2f98, 0x71374491, 0xb5c0fbcf, 0xe9b5dba5, 0x3956c25b, 0x59f111f1, 0x923f82a4, 0xab1c5ed5,
	0xd807aa98, 0x12835b01, 0x243185be, 0x550c7dc3, 0x72be5d74, 0x80deb1fe, 0x9bdc06a7, 0xc19bf174,
	0xe49b69c1, 0xefbe4786, 0x0fc19dc6, 0x240ca1cc, 0x2de92c6f, 0x4a7484aa, 0x5cb0a9dc, 0x76f988da,
	0x983e5152, 0xa831c66d, 0xb00327c8, 0xbf597fc7, 0xc6e00bf3, 0xd5a79147, 0x06ca6351, 0x14292967,
	0x27b70a85, 0x2e1b2138, 0x4d2c6dfc, 0x53380d13, 0x650a7354, 0x766a0abb, 0x81c2c92e, 0x92722c85,
	0xa2bfe8a1, 0xa81a664b, 0xc24b8b70, 0xc76c51a3, 0xd192e819, 0xd6990624, 0xf40e3585, 0x106aa070,
	0x19a4c116, 0x1e376c08, 0x2748774c, 0x34b0bcb5, 0x391c0cb3, 0x4ed8aa4a, 0x5b9cca4f, 0x682e6ff3,
	0x748f82ee, 0x78a5636f, 0x84c87814, 0x8cc70208, 0x90befffa, 0xa4506ceb, 0xbef9a3f7, 0xc67178f2,
}

// beginning tells the first 32 bits behind the point of the square roots of the first 8 primes.
func beginning() words {
	return words{
		0x6a09e667, 0xbb67ae85, 0x3c6ef372, 0xa54ff53a, 0x510e527f, 0x9b05688c, 0x1f83d9ab, 0x5be0cd19,
	}
}

// padded tells the last one or two blocks of a text of length bytes: rest, which is what lies behind its whole blocks, a bit that is set, zeros, and how many bits the text has.
func padded(rest []byte, length int) []byte {
	blocks := make([]byte, 0, 2*blockSize)
	blocks = append(blocks, rest...)
	blocks = append(blocks, 0x80)
	for len(blocks)%blockSize != blockSize-lengthSize {
		blocks = append(blocks, 0)
	}
	count := uint64(length) * 8
	for i := lengthSize - 1; i >= 0; i-- {
		blocks = append(blocks, byte(count>>(8*i)))
	}
	return blocks
}

// mixAll hands state through all blocks of b, which has whole ones alone.
func mixAll(state words, b []byte) words {
	for at := 0; at < len(b); at += blockSize {
		state = mix(state, b[at:at+blockSize])
	}
	return state
}

// mix hands state through one block. The names are those of FIPS 180-4, 6.2.2.
func mix(state words, block []byte) words {
	a, b, c, d := state[0], state[1], state[2], state[3]
	e, f, g, h := state[4], state[5], state[6], state[7]
	for i, w := range schedule(block) {
		t1 := h + bigSigma1(e) + choose(e, f, g) + roundWords[i] + w
		t2 := bigSigma0(a) + majority(a, b, c)
		h, g, f, e = g, f, e, d+t1
		d, c, b, a = c, b, a, t1+t2
	}
	mixed := words{a, b, c, d, e, f, g, h}
	for i := range mixed {
		mixed[i] += state[i]
	}
	return mixed
}

// schedule tells a word a round: first the block's own, then each from four of those before it.
func schedule(block []byte) [rounds]uint32 {
	var w [rounds]uint32
	for i := range blockWords {
		four := block[4*i : 4*i+4]
		w[i] = uint32(four[0])<<24 | uint32(four[1])<<16 | uint32(four[2])<<8 | uint32(four[3])
	}
	for i := blockWords; i < rounds; i++ {
		w[i] = smallSigma1(w[i-2]) + w[i-7] + smallSigma0(w[i-15]) + w[i-16]
	}
	return w
}

// choose takes y's bits where x's are set, z's elsewhere.
func choose(x, y, z uint32) uint32 { return x&y ^ ^x&z }

// majority takes of each place the bit that two of the three have.
func majority(x, y, z uint32) uint32 { return x&y ^ x&z ^ y&z }

func bigSigma0(x uint32) uint32 { return right(x, 2) ^ right(x, 13) ^ right(x, 22) }

func bigSigma1(x uint32) uint32 { return right(x, 6) ^ right(x, 11) ^ right(x, 25) }

func smallSigma0(x uint32) uint32 { return right(x, 7) ^ right(x, 18) ^ x>>3 }

func smallSigma1(x uint32) uint32 { return right(x, 17) ^ right(x, 19) ^ x>>10 }

// right turns x's bits to the right by n places.
func right(x uint32, n int) uint32 { return bits.RotateLeft32(x, -n) }
