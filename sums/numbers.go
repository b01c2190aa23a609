package sums

// mostBytes bounds an answer: the document promises nothing of a longer one, but a call must not panic for it.
const mostBytes = 1<<31 - 1

// noughts: room for a number of n bytes; none where n is outside what can be answered.
func noughts(n int) []byte {
	if n < 1 || n > mostBytes {
		return nil
	}
	return make([]byte, n)
}

// Big: x in n bytes, the highest first; of more than eight the others are 0, of fewer the high ones are left out.
func Big(x uint64, n int) string {
	b := noughts(n)
	for i := len(b) - 1; i >= 0 && x != 0; i-- {
		b[i] = byte(x)
		x >>= 8
	}
	return string(b)
}

// Little: x in n bytes, the lowest first; of more than eight the others are 0, of fewer the high ones are left out.
func Little(x uint64, n int) string {
	b := noughts(n)
	for i := 0; i < len(b) && x != 0; i++ {
		b[i] = byte(x)
		x >>= 8
	}
	return string(b)
}

// FromBig: the number of all bytes, the highest first; of more than eight, of the last eight.
func FromBig(s string) uint64 {
	var x uint64
	for i := 0; i < len(s); i++ {
		x = x<<8 | uint64(s[i])
	}
	return x
}

// FromLittle: the number of all bytes, the lowest first; of more than eight, of the first eight.
func FromLittle(s string) uint64 {
	var x uint64
	for i := min(len(s), 8) - 1; i >= 0; i-- {
		x = x<<8 | uint64(s[i])
	}
	return x
}
