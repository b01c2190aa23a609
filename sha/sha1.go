package sha

import "math/bits"

// Hash1 adds up SHA-1, text by text; the zero Hash1 has nothing.
//
// It is made of arrays alone, so that a copy of it is a sum of its own.
type Hash1 struct {
	h    [5]uint32
	tail tail
}

// start1: h ahead of the first block.
func start1() [5]uint32 {
	return [5]uint32{0x67452301, 0xefcdab89, 0x98badcfe, 0x10325476, 0xc3d2e1f0}
}

// Write adds a text behind those that were written.
func (s *Hash1) Write(t string) {
	if s.tail.size == 0 {
		s.h = start1()
	}
	for len(t) > 0 {
		t = t[s.tail.take(t):]
		if s.tail.full() {
			s.h = mix1(s.h, s.tail.part)
		}
	}
}

// Sum: Sum1 of all that was written. It pads a copy, since more may be written.
func (s *Hash1) Sum() string {
	padded := *s
	padded.Write(padding(s.tail.size))
	return wordsText(padded.h[:])
}

// Sum1: SHA-1 of a text, twenty bytes.
func Sum1(t string) string {
	var s Hash1
	s.Write(t)
	return s.Sum()
}

// spread1: the eighty words of a block.
func spread1(part block) [80]uint32 {
	var w [80]uint32
	for i := 0; i < 16; i++ {
		w[i] = part.word(i)
	}
	for i := 16; i < 80; i++ {
		w[i] = bits.RotateLeft32(w[i-3]^w[i-8]^w[i-14]^w[i-16], 1)
	}
	return w
}

// step1: f and k of a round.
func step1(i int, b, c, d uint32) (f, k uint32) {
	switch {
	case i < 20:
		return b&c | ^b&d, 0x5a827999
	case i < 40:
		return b ^ c ^ d, 0x6ed9eba1
	case i < 60:
		return b&c | b&d | c&d, 0x8f1bbcdc
	}
	return b ^ c ^ d, 0xca62c1d6
}

// mix1: h behind a block.
func mix1(h [5]uint32, part block) [5]uint32 {
	w := spread1(part)
	a, b, c, d, e := h[0], h[1], h[2], h[3], h[4]
	for i := 0; i < 80; i++ {
		f, k := step1(i, b, c, d)
		t := bits.RotateLeft32(a, 5) + f + e + k + w[i]
		a, b, c, d, e = t, a, bits.RotateLeft32(b, 30), c, d
	}
	return [5]uint32{h[0] + a, h[1] + b, h[2] + c, h[3] + d, h[4] + e}
}
