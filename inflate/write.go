package inflate

import (
	"cartulary/bitin"
	"cartulary/huff"
	"cartulary/sums"
)

// Stored: a stream of stored blocks.
func Stored(s string) string {
	var w bitin.Writer
	for len(s) > MaxStored {
		putStored(&w, s[:MaxStored], 0)
		s = s[MaxStored:]
	}
	putStored(&w, s, 1)
	return w.Text()
}

// putStored puts one stored block; last is 1 for the last one.
func putStored(w *bitin.Writer, s string, last uint32) {
	w.Bits(last|storedKind<<1, 3)
	n := uint64(len(s))
	w.Bytes(sums.Little(n, 2))
	w.Bytes(sums.Little(^n, 2))
	w.Bytes(s)
}

// Deflate: a stream for s, with repeats where there are some.
func Deflate(s string) string {
	// Bytes that don't repeat are longer by codes than as they are.
	packed, plain := fixedBlock(s), Stored(s)
	if len(packed) < len(plain) {
		return packed
	}
	return plain
}

// fixedBlock: a stream of one fixed block.
func fixedBlock(s string) string {
	var w bitin.Writer
	w.Bits(1|fixedKind<<1, 3)
	set := fixedCodes()
	seen := newFinder(s)
	for at := 0; at < len(s); {
		length, distance := seen.longest(at)
		if length < leastLength {
			w.Code(set.literals.Code(int(s[at])))
			length = 1
		} else {
			putLength(&w, set.literals, length)
			putDistance(&w, set.distances, distance)
		}
		for range length {
			seen.add(at)
			at++
		}
	}
	w.Code(set.literals.Code(endOfBlock))
	return w.Text()
}

// putLength puts a length's symbol and further bits.
func putLength(w *bitin.Writer, set *huff.Table, length int) {
	symbol := longestLength
	base, n := lengthOf(symbol)
	for base > length {
		symbol--
		base, n = lengthOf(symbol)
	}
	w.Code(set.Code(symbol))
	w.Bits(uint32(length-base), n)
}

// putDistance puts a distance's symbol and further bits.
func putDistance(w *bitin.Writer, set *huff.Table, distance int) {
	symbol := lastDistance
	base, n := distanceOf(symbol)
	for base > distance {
		symbol--
		base, n = distanceOf(symbol)
	}
	w.Code(set.Code(symbol))
	w.Bits(uint32(distance-base), n)
}
