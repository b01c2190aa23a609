package inflate

import (
	"slices"

	"cartulary/api"
	"cartulary/huff"
)

// codes are the two sets by which a block's symbols are read.
type codes struct {
	literals, distances *huff.Table
}

// The most codes that a dynamic block may have.
const (
	mostLiterals  = 286
	mostDistances = 30
)

// The symbols of the first set: lengths, and from repeatLast on those that repeat one; the last of them tells many noughts.
const (
	repeatLast   = 16
	fewNoughts   = 17
	firstSymbols = 19
)

// firstOrder tells of which symbols the first set's lengths are, one behind the other.
var firstOrder = [firstSymbols]int{16, 17, 18, 0, 8, 7, 9, 6, 10, 5, 11, 4, 12, 3, 13, 2, 14, 1, 15}

// fixedCodes: the sets of a fixed block.
func fixedCodes() codes {
	var lengths []int
	for symbol := range 288 {
		lengths = append(lengths, fixedLength(symbol))
	}
	literals, _ := huff.New(lengths)
	distances, _ := huff.New(slices.Repeat([]int{5}, 32))
	return codes{literals, distances}
}

// fixedLength: how many bits a fixed block's literal has.
func fixedLength(symbol int) int {
	switch {
	case symbol < 144:
		return 8
	case symbol < 256:
		return 9
	case symbol < 280:
		return 7
	}
	return 8
}

// useFixed makes the symbols that follow be read by the fixed sets.
func (d *stream) useFixed() {
	if d.fixed.literals == nil {
		d.fixed = fixedCodes()
	}
	d.now = d.fixed
}

// readCodes reads a dynamic block's sets.
func (d *stream) readCodes() api.Errno {
	counts, e := d.bits(14)
	if e != api.OK {
		return e
	}
	nl, nd, nc := 257+counts&31, 1+counts>>5&31, 4+counts>>10
	if nl > mostLiterals || nd > mostDistances {
		return api.ErrText
	}
	first, e := d.readFirst(nc)
	if e != api.OK {
		return e
	}
	lengths, e := d.readLengths(first, nl+nd)
	if e != api.OK {
		return e
	}
	return d.useLengths(lengths[:nl], lengths[nl:])
}

// useLengths makes the symbols that follow be read by sets of these lengths.
func (d *stream) useLengths(literals, distances []int) api.Errno {
	if literals[endOfBlock] == 0 {
		return api.ErrText
	}
	var e1, e2 api.Errno
	d.now.literals, e1 = huff.New(literals)
	d.now.distances, e2 = huff.New(distances)
	if e1 != api.OK || e2 != api.OK {
		return api.ErrText
	}
	return api.OK
}

// readFirst reads the set by which the lengths of the others are told.
func (d *stream) readFirst(nc int) (*huff.Table, api.Errno) {
	var lengths [firstSymbols]int
	for i := range nc {
		n, e := d.bits(3)
		if e != api.OK {
			return nil, e
		}
		lengths[firstOrder[i]] = n
	}
	first, e := huff.New(lengths[:])
	if e != api.OK {
		return nil, api.ErrText
	}
	return first, api.OK
}

// readLengths reads n lengths, told by the first set.
func (d *stream) readLengths(first *huff.Table, n int) ([]int, api.Errno) {
	var lengths []int
	for len(lengths) < n {
		symbol, e := first.Read(d.in)
		if e != api.OK {
			return nil, e
		}
		if symbol == repeatLast && len(lengths) == 0 {
			return nil, api.ErrText
		}
		length, times := symbol, 1
		if symbol >= repeatLast {
			if times, e = d.readTimes(symbol); e != api.OK {
				return nil, e
			}
			length = repeated(symbol, lengths)
		}
		if times > n-len(lengths) {
			return nil, api.ErrText
		}
		for range times {
			lengths = append(lengths, length)
		}
	}
	return lengths, api.OK
}

// readTimes: how often a symbol of the first set repeats its length.
func (d *stream) readTimes(symbol int) (int, api.Errno) {
	var least, n int
	switch symbol {
	case repeatLast:
		least, n = 3, 2
	case fewNoughts:
		least, n = 3, 3
	default:
		least, n = 11, 7
	}
	further, e := d.bits(n)
	return least + further, e
}

// repeated: the length that a symbol of the first set repeats.
func repeated(symbol int, lengths []int) int {
	if symbol == repeatLast {
		return lengths[len(lengths)-1]
	}
	return 0
}
