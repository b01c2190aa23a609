package bitin

import "math/bits"

// Writer puts bits into bytes, the lowest first; the zero Writer has none.
type Writer struct {
	full []byte
	// part holds the bits of the byte that has been begun, fewer than eight of them.
	part uint64
	held int
}

// Bits puts the lowest n bits (0 to 32) of x.
func (w *Writer) Bits(x uint32, n int) {
	if n < 0 || n > maxBits {
		return
	}
	lowest := uint64(x) & (1<<n - 1)
	w.part |= lowest << w.held
	w.held += n
	for w.held >= 8 {
		w.full = append(w.full, byte(w.part))
		w.part >>= 8
		w.held -= 8
	}
}

// Code puts a code's bits: the lowest n bits (1 to 32) of x, the highest of them first.
func (w *Writer) Code(x uint32, n int) {
	if n < 1 || n > maxBits {
		return
	}
	w.Bits(bits.Reverse32(x)>>(maxBits-n), n)
}

// Align fills the byte that has been begun with noughts.
func (w *Writer) Align() {
	if w.held > 0 {
		w.Bits(0, 8-w.held)
	}
}

// Bytes puts whole bytes, behind an Align.
func (w *Writer) Bytes(s string) {
	w.Align()
	w.full = append(w.full, s...)
}

// Text: the bytes, the last one filled with noughts; more may be put behind the bits that there are.
func (w *Writer) Text() string {
	text := string(w.full)
	if w.held > 0 {
		text += string([]byte{byte(w.part)})
	}
	return text
}
