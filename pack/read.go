package pack

import (
	"cartulary/api"
	"cartulary/object"
	"cartulary/sums"
	"cartulary/zlib"
)

const (
	// openingBytes is how many bytes kind and size have at most.
	openingBytes = 5
	// firstBits of the size are in the first byte, laterBits in each later one.
	firstBits = 4
	laterBits = 7
	// kinds is how many kinds the bits of one can tell.
	kinds = 8
	// more is set in a byte behind which another one belongs to the same number.
	more = 1 << laterBits
	// maxSoFar bounds a number to which another byte is still to come.
	maxSoFar = 1 << 24
	// nameBytes are those of a base's name.
	nameBytes = 20
)

// Read: the entry at a place of a pack (head and end aren't asked).
func Read(s string, at int) (x Entry, e api.Errno) {
	if at < headBytes || at > len(s)-sumBytes {
		return Entry{}, api.ErrArg
	}
	r := &reader{text: s[:len(s)-sumBytes], at: at}
	e = attempt(func() { x = r.entry() })
	if e != api.OK {
		return Entry{}, e
	}
	return x, api.OK
}

// reader takes a pack's bytes one behind another. Its methods give up by a panic with a failure.
type reader struct {
	text string
	at   int
}

// failure has a type of its own, so that no other panic is taken for one.
type failure struct {
	e api.Errno
}

// attempt: the error with which reading gave up; OK: it did not.
func attempt(read func()) (e api.Errno) {
	defer func() {
		cause := recover()
		if cause == nil {
			return
		}
		f, ok := cause.(failure)
		if !ok {
			panic(cause)
		}
		e = f.e
	}()
	read()
	return api.OK
}

// entry: the next one.
func (r *reader) entry() Entry {
	x := Entry{At: r.at}
	kind, size := r.opening()
	x.Kind = kind
	switch {
	case kind == Offset:
		x.Base = r.base(x.At)
	case kind == Named:
		x.Id = sums.Hex(r.take(nameBytes))
	case object.Name(kind) == "":
		panic(failure{api.ErrKind})
	}
	x.Data = r.frame(size)
	x.Next = r.at
	x.Crc = sums.Crc32(r.text[x.At:x.Next])
	return x
}

// take: the next n bytes.
func (r *reader) take(n int) string {
	if len(r.text)-r.at < n {
		panic(failure{api.ErrEnd})
	}
	r.at += n
	return r.text[r.at-n : r.at]
}

// next: the next byte.
func (r *reader) next() int {
	return int(r.take(1)[0])
}

// opening: kind and size. A byte too many counts only once it is there: till then it is wanting.
func (r *reader) opening() (kind, size int) {
	c := r.next()
	kind = c >> firstBits % kinds
	size = c % (1 << firstBits)
	for i := 1; c >= more; i++ {
		c = r.next()
		if i == openingBytes {
			panic(failure{api.ErrText})
		}
		size |= c % more << (firstBits + laterBits*(i-1))
	}
	return kind, size
}

// base: the place of the base of the entry at a place, told by how far back it stands.
func (r *reader) base(at int) int {
	c := r.next()
	back := c % more
	for c >= more {
		if back > maxSoFar {
			panic(failure{api.ErrText})
		}
		c = r.next()
		// One more, so that no number can be told in two ways.
		back = (back+1)*more + c%more
	}
	if back < 1 || back > at-headBytes {
		panic(failure{api.ErrText})
	}
	return at - back
}

// frame: what the next frame says; it has to have so many bytes.
func (r *reader) frame(size int) string {
	if size > object.MaxData {
		panic(failure{api.ErrBig})
	}
	data, n, e := zlib.Read(r.text, r.at, size)
	// A frame too long for its size is a pack that isn't right, not one that is too big.
	if e == api.ErrBig || e == api.OK && len(data) < size {
		panic(failure{api.ErrText})
	}
	if e != api.OK {
		panic(failure{e})
	}
	r.at += n
	return data
}
