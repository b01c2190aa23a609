package bitin

// Reader takes bits from a text; the zero Reader's text is empty.
type Reader struct {
	text  string
	taken int
}

// New: a reader of the text from byte at on; beyond its ends there is nothing.
func New(s string, at int) *Reader {
	at = min(max(at, 0), len(s))
	return &Reader{text: s[at:]}
}

// Peek: of the next n bits (0 to 32) as many as there are, as a number, and how many they are.
func (r *Reader) Peek(n int) (uint32, int) {
	if n < 0 || n > maxBits {
		return 0, 0
	}
	n = min(n, r.Left())
	at, begun := r.taken/8, r.taken%8
	// 32 bits that begin within a byte lie in five bytes, which a uint32 can't hold.
	var x uint64
	for got := 0; got < begun+n; got += 8 {
		x |= uint64(r.text[at]) << got
		at++
	}
	return uint32(x >> begun & (1<<n - 1)), n
}

// Skip takes n bits (0 to 32); false: there aren't so many, and none is taken.
func (r *Reader) Skip(n int) bool {
	if n < 0 || n > maxBits || n > r.Left() {
		return false
	}
	r.taken += n
	return true
}

// Bits: the next n bits (0 to 32) as a number, the first one the lowest; false: there aren't so many, and none is taken.
func (r *Reader) Bits(n int) (uint32, bool) {
	x, _ := r.Peek(n)
	if !r.Skip(n) {
		return 0, false
	}
	return x, true
}

// Align takes what is left of a byte that has been begun.
func (r *Reader) Align() {
	r.taken = 8 * r.Used()
}

// Bytes: n whole bytes, behind an Align; false: there aren't so many, and none is taken.
func (r *Reader) Bytes(n int) (string, bool) {
	r.Align()
	// Bytes are held against bytes: 8*n might wrap round.
	if n < 0 || n > r.Left()/8 {
		return "", false
	}
	at := r.Used()
	r.taken += 8 * n
	return r.text[at : at+n], true
}

// Used: how many bytes have been begun.
func (r *Reader) Used() int {
	return (r.taken + 7) / 8
}

// Left: how many bits there are still.
func (r *Reader) Left() int {
	return 8*len(r.text) - r.taken
}
