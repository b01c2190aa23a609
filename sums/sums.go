// Package sums is layer 1: cyclic and running sums, digits, numbers as bytes (doc/01-sums.md).
package sums

// Crc adds up a cyclic sum, text by text; the zero Crc has nothing.
//
// c is kept with its bits turned, as Sum tells it, so that the zero value needs no start.
type Crc struct{ c uint32 }

// crcOfNibble holds what four bits leave behind: a table of whole bytes would be sixteen times as long.
var crcOfNibble = [16]uint32{
	0x00000000, 0x1db71064, 0x3b6e20c8, 0x26d930ac,
	0x76dc4190, 0x6b6b51f4, 0x4db26158, 0x5005713c,
	0xedb88320, 0xf00f9344, 0xd6d6a3e8, 0xcb61b38c,
	0x9b64c2b0, 0x86d3d2d4, 0xa00ae278, 0xbdbdf21c,
}

// Write adds a text behind those that were written.
func (s *Crc) Write(t string) {
	c := ^s.c
	for i := 0; i < len(t); i++ {
		c ^= uint32(t[i])
		c = c>>4 ^ crcOfNibble[c&15]
		c = c>>4 ^ crcOfNibble[c&15]
	}
	s.c = ^c
}

// Sum: Crc32 of all that was written.
func (s *Crc) Sum() uint32 {
	return s.c
}

// Crc32: the cyclic redundancy check of IEEE 802.3 of a text.
func Crc32(t string) uint32 {
	var s Crc
	s.Write(t)
	return s.Sum()
}

// adlerPrime is the greatest prime below 65536.
const adlerPrime = 65521

// Adler adds up Adler's sum, text by text; the zero Adler has nothing.
//
// RFC 1950 begins at a = 1: a is kept one less (modulo the prime) so that the zero value needs no start.
type Adler struct{ a, b uint32 } // a is one less than it is told

// Write adds a text behind those that were written.
func (s *Adler) Write(t string) {
	a, b := s.told(), s.b
	for i := 0; i < len(t); i++ {
		a = (a + uint32(t[i])) % adlerPrime
		b = (b + a) % adlerPrime
	}
	s.a, s.b = (a+adlerPrime-1)%adlerPrime, b
}

// told: a as RFC 1950 counts it.
func (s *Adler) told() uint32 {
	return (s.a + 1) % adlerPrime
}

// Sum: Adler32 of all that was written.
func (s *Adler) Sum() uint32 {
	return s.b<<16 | s.told()
}

// Adler32: RFC 1950's sum of a text.
func Adler32(t string) uint32 {
	var s Adler
	s.Write(t)
	return s.Sum()
}
