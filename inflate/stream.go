package inflate

import (
	"cartulary/api"
	"cartulary/bitin"
	"cartulary/sums"
)

// stream is a stream that is being read.
type stream struct {
	in   *bitin.Reader
	out  []byte
	most int
	// last: the block that was begun is the last one.
	last bool
	now  codes
	// fixed is made when the first fixed block comes, and once: a short stream may have thousands of them.
	fixed codes
}

// read goes from a block's head to its symbols, and back behind its end, until the last block has ended.
func (d *stream) read() api.Errno {
	var kind, symbol int
	var e api.Errno
nextBlock:
	if d.last {
		return api.OK
	}
	if kind, e = d.readHead(); e != api.OK {
		return e
	}
	switch kind {
	case storedKind:
		if e = d.readStored(); e == api.OK {
			goto nextBlock
		}
		return e
	case fixedKind:
		d.useFixed()
		goto nextSymbol
	case dynamicKind:
		if e = d.readCodes(); e == api.OK {
			goto nextSymbol
		}
		return e
	}
	return api.ErrText
nextSymbol:
	if symbol, e = d.now.literals.Read(d.in); e != api.OK {
		return e
	}
	if symbol == endOfBlock {
		goto nextBlock
	}
	if symbol < endOfBlock {
		e = d.put(byte(symbol))
	} else {
		e = d.repeat(symbol)
	}
	if e != api.OK {
		return e
	}
	goto nextSymbol
}

// readHead: the kind of the block that begins, which may be the last one.
func (d *stream) readHead() (int, api.Errno) {
	head, e := d.bits(3)
	d.last = head&1 == 1
	return head >> 1, e
}

// bits: the next n bits as a number.
func (d *stream) bits(n int) (int, api.Errno) {
	x, ok := d.in.Bits(n)
	if !ok {
		return 0, api.ErrEnd
	}
	return int(x), api.OK
}

// readStored lets a stored block come out. Of one that ends early the bytes that are there come out first: they may be too many.
func (d *stream) readStored() api.Errno {
	head, ok := d.in.Bytes(4)
	if !ok {
		return api.ErrEnd
	}
	length, turned := sums.FromLittle(head[:2]), sums.FromLittle(head[2:])
	if length^turned != 0xffff {
		return api.ErrText
	}
	there := min(int(length), d.in.Left()/8)
	if there > d.room() {
		return api.ErrBig
	}
	text, _ := d.in.Bytes(there)
	d.out = append(d.out, text...)
	if there < int(length) {
		return api.ErrEnd
	}
	return api.OK
}

// room: how many bytes may come out still.
func (d *stream) room() int {
	return d.most - len(d.out)
}

// put lets one byte come out.
func (d *stream) put(c byte) api.Errno {
	if d.room() == 0 {
		return api.ErrBig
	}
	d.out = append(d.out, c)
	return api.OK
}

// repeat lets bytes come out once more, as far back as is said behind the length symbol.
func (d *stream) repeat(symbol int) api.Errno {
	length, e := d.readLength(symbol)
	if e != api.OK {
		return e
	}
	distance, e := d.readDistance()
	if e != api.OK {
		return e
	}
	if distance > len(d.out) {
		return api.ErrText
	}
	if length > d.room() {
		return api.ErrBig
	}
	// Byte by byte: a distance below the length repeats what has only just come out.
	for range length {
		d.out = append(d.out, d.out[len(d.out)-distance])
	}
	return api.OK
}

// readLength: the length that its symbol and its further bits say.
func (d *stream) readLength(symbol int) (int, api.Errno) {
	if symbol > longestLength {
		return 0, api.ErrText
	}
	base, n := lengthOf(symbol)
	further, e := d.bits(n)
	return base + further, e
}

// readDistance: the distance that the next symbol and its further bits say.
func (d *stream) readDistance() (int, api.Errno) {
	symbol, e := d.now.distances.Read(d.in)
	if e != api.OK {
		return 0, e
	}
	if symbol > lastDistance {
		return 0, api.ErrText
	}
	base, n := distanceOf(symbol)
	further, e := d.bits(n)
	return base + further, e
}
