// Package word has words of 32 bits: as bytes, and turned.
package word

import "math/bits"

const (
	wordBits  = 32
	wordBytes = 4
)

// Left turns a word's bits to the left: what falls out at the top comes in at the bottom.
func Left(x uint32, by int) uint32 { return bits.RotateLeft32(x, places(by)) }

// Right turns a word's bits to the right: what falls out at the bottom comes in at the top.
func Right(x uint32, by int) uint32 { return bits.RotateLeft32(x, -places(by)) }

// places tells by's rest by 32, from 0 to 31. It masks, as Go's % would leave a rest below 0 of a by below 0.
func places(by int) int { return by & (wordBits - 1) }

// Bytes tells words as bytes, four of each word, the highest first.
func Bytes(words ...uint32) []byte {
	out := make([]byte, 0, wordBytes*len(words))
	for _, w := range words {
		out = append(out, byte(w>>24), byte(w>>16), byte(w>>8), byte(w))
	}
	return out
}

// Words tells the words whose bytes these are; nothing, false, of bytes that are no multiple of four.
func Words(b []byte) ([]uint32, bool) {
	if len(b)%wordBytes != 0 {
		return nil, false
	}
	out := make([]uint32, 0, len(b)/wordBytes)
	for i := 0; i < len(b); i += wordBytes {
		out = append(out, uint32(b[i])<<24|uint32(b[i+1])<<16|uint32(b[i+2])<<8|uint32(b[i+3]))
	}
	return out, true
}

// Add adds words up; sums go round at 2^32.
func Add(words ...uint32) uint32 {
	sum := uint32(0)
	for _, w := range words {
		sum += w
	}
	return sum
}

// Choose tells of each bit that of y, where x's is 1, else that of z.
func Choose(x, y, z uint32) uint32 { return x&y | ^x&z }

// Majority tells of each bit that which two of the three, at least, have.
func Majority(x, y, z uint32) uint32 { return x&y | x&z | y&z }
