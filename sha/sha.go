// Package sha is layer 2: SHA-1 and SHA-256, at once and text by text (doc/02-sha.md).
package sha

// blockSize is how many bytes a block has, of SHA-1 and of SHA-256.
const blockSize = 64

// block is a block's bytes.
type block [blockSize]byte

// tail is what was written behind the last full block, and how many bytes were written in all.
type tail struct {
	part block
	size uint64
}

// take copies from the front of t what the begun block has room for, and tells how many bytes that was.
func (l *tail) take(t string) int {
	n := copy(l.part[l.size%blockSize:], t)
	l.size += uint64(n)
	return n
}

// full: has the last take ended a block?
func (l *tail) full() bool {
	return l.size%blockSize == 0
}

// padding: what stands behind a text of so many bytes, so that the last block ends with the length in bits.
func padding(size uint64) string {
	const lengthSize = 8
	noughts := (2*blockSize - 1 - lengthSize - size%blockSize) % blockSize
	pad := make([]byte, 1+noughts)
	pad[0] = 0x80
	bits := size * 8
	return string(pad) + wordText(uint32(bits>>32)) + wordText(uint32(bits))
}

// word: the i-th of the block's sixteen words.
func (b *block) word(i int) uint32 {
	return uint32(b[4*i])<<24 | uint32(b[4*i+1])<<16 | uint32(b[4*i+2])<<8 | uint32(b[4*i+3])
}

// wordText: a word's bytes, the highest first.
func wordText(w uint32) string {
	return string([]byte{byte(w >> 24), byte(w >> 16), byte(w >> 8), byte(w)})
}

// wordsText: the bytes of some words, the highest of each first.
func wordsText(words []uint32) string {
	text := ""
	for _, w := range words {
		text += wordText(w)
	}
	return text
}
