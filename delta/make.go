package delta

// block is the least that is looked for in the base. It has to be longer than a copy with all its
// bytes and the insert that it parts in two, so that no copy makes a delta longer.
const block = 16

// maxInsert is the most bytes of one insert.
const maxInsert = 127

// Make: a delta that makes t of its base.
func Make(base, t string) string {
	places := blocks(base)
	d := appendSize(appendSize(nil, len(base)), len(t))
	done := 0
	for at := 0; at+block <= len(t); {
		place, found := places[t[at:at+block]]
		if !found {
			at++
			continue
		}
		back := alikeBehind(base[:place], t[done:at])
		length := back + alike(base[place:], t[at:])
		d = appendInserts(d, t[done:at-back])
		d = appendCopies(d, place-back, length)
		done = at - back + length
		at = done
	}
	return string(appendInserts(d, t[done:]))
}

// blocks: the first place of each block of the base. Only every sixteenth place has one: a longer
// piece is found by the block within it.
func blocks(base string) map[string]int {
	places := map[string]int{}
	for at := 0; at+block <= len(base); at += block {
		if _, found := places[base[at:at+block]]; !found {
			places[base[at:at+block]] = at
		}
	}
	return places
}

// alike: how many bytes two texts have in common from their beginnings on.
func alike(a, b string) int {
	n := 0
	for n < len(a) && n < len(b) && a[n] == b[n] {
		n++
	}
	return n
}

// alikeBehind: how many bytes two texts have in common from their ends back.
func alikeBehind(a, b string) int {
	n := 0
	for n < len(a) && n < len(b) && a[len(a)-1-n] == b[len(b)-1-n] {
		n++
	}
	return n
}

// appendSize puts a size behind d.
func appendSize(d []byte, n int) []byte {
	for ; n >= more; n >>= sizeBits {
		d = append(d, byte(n%more+more))
	}
	return append(d, byte(n))
}

// appendInserts puts inserts of a text behind d: none, if it is empty.
func appendInserts(d []byte, text string) []byte {
	for len(text) > 0 {
		n := min(len(text), maxInsert)
		d = append(d, byte(n))
		d = append(d, text[:n]...)
		text = text[n:]
	}
	return d
}

// appendCopies puts copies of a piece of the base behind d, each as long as one may be.
func appendCopies(d []byte, place, length int) []byte {
	for length > 0 {
		n := min(length, wholeLength)
		d = appendCopy(d, place, n)
		place += n
		length -= n
	}
	return d
}

// appendCopy puts a copy of at most wholeLength bytes behind d.
func appendCopy(d []byte, place, length int) []byte {
	first := len(d)
	d = append(d, copied)
	d, ofPlace := appendNumber(d, place, placeBytes)
	d, ofLength := appendNumber(d, length%wholeLength, lengthBytes)
	d[first] += ofPlace + ofLength<<placeBytes
	return d
}

// appendNumber puts those of a number's n bytes behind d that aren't 0, the lowest first; which ones
// they are is told by bits.
func appendNumber(d []byte, x, n int) ([]byte, byte) {
	var which byte
	for i := range n {
		if c := byte(x >> (8 * i)); c != 0 {
			d = append(d, c)
			which |= 1 << i
		}
	}
	return d, which
}
