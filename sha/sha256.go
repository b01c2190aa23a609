package sha

import "math/bits"

// Hash256 adds up SHA-256, text by text; the zero Hash256 has nothing.
//
// It is made of arrays alone, so that a copy of it is a sum of its own.
type Hash256 struct {
	h    [8]uint32
	tail tail
}

// start256: h ahead of the first block: the square roots of the first 8 primes, of each the first 32 bits of its fraction.
func start256() [8]uint32 {
	return [8]uint32{
		0x6a09e667, 0xbb67ae85, 0x3c6ef372, 0xa54ff53a,
		0x510e527f, 0x9b05688c, 0x1f83d9ab, 0x5be0cd19,
	}
}

// roots256 holds k: the cube roots of the first 64 primes, of each the first 32 bits of its fraction.
var roots256 = [64]uint32{
	0x428a2f98, 0x71374491, 0xb5c0fbcf, 0xe9b5dba5, 0x3956c25b, 0x59f111f1, 0x923f82a4, 0xab1c5ed5,
	0xd807aa98, 0x12835b01, 0x243185be, 0x550c7dc3, 0x72be5d74, 0x80deb1fe, 0x9bdc06a7, 0xc19bf174,
	0xe49b69c1, 0xefbe4786, 0x0fc19dc6, 0x240ca1cc, 0x2de92c6f, 0x4a7484aa, 0x5cb0a9dc, 0x76f988da,
	0x983e5152, 0xa831c66d, 0xb00327c8, 0xbf597fc7, 0xc6e00bf3, 0xd5a79147, 0x06ca6351, 0x14292967,
	0x27b70a85, 0x2e1b2138, 0x4d2c6dfc, 0x53380d13, 0x650a7354, 0x766a0abb, 0x81c2c92e, 0x92722c85,
	0xa2bfe8a1, 0xa81a664b, 0xc24b8b70, 0xc76c51a3, 0xd192e819, 0xd6990624, 0xf40e3585, 0x106aa070,
	0x19a4c116, 0x1e376c08, 0x2748774c, 0x34b0bcb5, 0x391c0cb3, 0x4ed8aa4a, 0x5b9cca4f, 0x682e6ff3,
	0x748f82ee, 0x78a5636f, 0x84c87814, 0x8cc70208, 0x90befffa, 0xa4506ceb, 0xbef9a3f7, 0xc67178f2,
}

// Write adds a text behind those that were written.
func (s *Hash256) Write(t string) {
	if s.tail.size == 0 {
		s.h = start256()
	}
	for len(t) > 0 {
		t = t[s.tail.take(t):]
		if s.tail.full() {
			s.h = mix256(s.h, s.tail.part)
		}
	}
}

// Sum: Sum256 of all that was written. It pads a copy, since more may be written.
func (s *Hash256) Sum() string {
	padded := *s
	padded.Write(padding(s.tail.size))
	return wordsText(padded.h[:])
}

// Sum256: SHA-256 of a text, 32 bytes.
func Sum256(t string) string {
	var s Hash256
	s.Write(t)
	return s.Sum()
}

// turns: the xor of a word's bits turned right by three counts.
func turns(x uint32, first, second, third int) uint32 {
	return bits.RotateLeft32(x, -first) ^ bits.RotateLeft32(x, -second) ^ bits.RotateLeft32(x, -third)
}

// turnsShift: the xor of a word's bits turned right by two counts, and shifted right by a third.
func turnsShift(x uint32, first, second, shift int) uint32 {
	return bits.RotateLeft32(x, -first) ^ bits.RotateLeft32(x, -second) ^ x>>shift
}

// spread256: the sixty-four words of a block.
func spread256(part block) [64]uint32 {
	var w [64]uint32
	for i := 0; i < 16; i++ {
		w[i] = part.word(i)
	}
	for i := 16; i < 64; i++ {
		w[i] = w[i-16] + turnsShift(w[i-15], 7, 18, 3) + w[i-7] + turnsShift(w[i-2], 17, 19, 10)
	}
	return w
}

// mix256: h behind a block.
func mix256(start [8]uint32, part block) [8]uint32 {
	w := spread256(part)
	a, b, c, d := start[0], start[1], start[2], start[3]
	e, f, g, h := start[4], start[5], start[6], start[7]
	for i := 0; i < 64; i++ {
		t := h + turns(e, 6, 11, 25) + (e&f ^ ^e&g) + roots256[i] + w[i]
		u := turns(a, 2, 13, 22) + (a&b ^ a&c ^ b&c)
		a, b, c, d, e, f, g, h = t+u, a, b, c, d+t, e, f, g
	}
	return [8]uint32{
		start[0] + a, start[1] + b, start[2] + c, start[3] + d,
		start[4] + e, start[5] + f, start[6] + g, start[7] + h,
	}
}
