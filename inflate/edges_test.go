package inflate

import (
	"strings"
	"testing"

	"cartulary/api"
	"cartulary/bitin"
	"cartulary/huff"
)

// The tests of this file are of P5.1: the edges that the document names, each laid out bit by bit.

// maker lays a stream out bit by bit.
type maker struct{ bitin.Writer }

// number puts a number of n bits, the lowest first.
func (m *maker) number(x, n int) *maker {
	m.Bits(uint32(x), n)
	return m
}

// code puts a code, the highest bit first.
func (m *maker) code(x, n int) *maker {
	m.Code(uint32(x), n)
	return m
}

// fixed puts symbols by RFC 1951's table of the fixed codes.
func (m *maker) fixed(symbols ...int) *maker {
	for _, symbol := range symbols {
		switch {
		case symbol < 144:
			m.code(0x30+symbol, 8)
		case symbol < 256:
			m.code(0x190+symbol-144, 9)
		case symbol < 280:
			m.code(symbol-256, 7)
		default:
			m.code(0xc0+symbol-280, 8)
		}
	}
	return m
}

// head puts a dynamic block's counts and the lengths of its first set, in the order of the stream.
func (m *maker) head(nl, nd int, first ...int) *maker {
	m.number(5, 3).number(nl-257, 5).number(nd-1, 5).number(len(first)-4, 4)
	for _, n := range first {
		m.number(n, 3)
	}
	return m
}

// by puts symbols by the codes of these lengths.
func (m *maker) by(t *testing.T, lengths []int, symbols ...int) *maker {
	t.Helper()
	set, e := huff.New(lengths)
	if e != api.OK {
		t.Fatalf("New(%v): %d", lengths, e)
	}
	for _, symbol := range symbols {
		c, n := set.Code(symbol)
		if n == 0 {
			t.Fatalf("New(%v): symbol %d has no code", lengths, symbol)
		}
		m.Code(c, n)
	}
	return m
}

// answers holds Inflate against what the document asks, and the model too.
func answers(t *testing.T, what, s string, most int, text string, e api.Errno) {
	t.Helper()
	want := len(s)
	if e != api.OK {
		want = 0
	}
	if got, n, gotE := Inflate(s, 0, most); got != text || n != want || gotE != e {
		t.Errorf("%s: Inflate(%x, 0, %d): %q, %d, %d, not %q, %d, %d", what, s, most, got, n, gotE, text, want, e)
	}
	if got, n, gotE := slowInflate(s, 0, most); got != text || n != want || gotE != e {
		t.Errorf("%s: the model of %x, most %d: %q, %d, %d", what, s, most, got, n, gotE)
	}
}

// fixedBlockOf begins a last fixed block.
func fixedBlockOf(symbols ...int) *maker {
	m := &maker{}
	return m.number(3, 3).fixed(symbols...)
}

func TestKinds(t *testing.T) {
	answers(t, "kind 3, last", "\x07", 9, "", api.ErrText)
	answers(t, "kind 3, not last", "\x06", 9, "", api.ErrText)
	answers(t, "kind 3 behind a block", "\x00\x01\x00\xfe\xffx\x07", 9, "", api.ErrText)
	answers(t, "no bit", "", 9, "", api.ErrEnd)
	answers(t, "no bit behind a block", "\x00\x01\x00\xfe\xffx", 9, "", api.ErrEnd)
	// 3 bits, two literals of 9 and an end of 7, 3 bits, one literal and an end: 47, and one is left.
	m := &maker{}
	m.number(2, 3).fixed(200, 200, 256)
	m.number(2, 3).fixed(200, 256)
	answers(t, "a head of one bit", m.Text(), 9, "", api.ErrEnd)
	m.number(3, 3).fixed(256)
	answers(t, "a head over two bytes", m.Text(), 9, "\xc8\xc8\xc8", api.OK)
}

func TestStoredBlocks(t *testing.T) {
	for k := range 16 {
		n := 0xfffd ^ 1<<k
		answers(t, "NLEN", "\x01\x02\x00"+string([]byte{byte(n), byte(n >> 8)})+"ab", 9, "", api.ErrText)
	}
	answers(t, "NLEN as LEN", "\x01\x02\x00\x02\x00ab", 9, "", api.ErrText)
	answers(t, "NLEN, no byte behind, most 0", "\x01\x02\x00\xfd\xfe", 0, "", api.ErrText)
	for n := 1; n < 5; n++ {
		answers(t, "lengths cut", "\x01\x02\x00\x00\x00ab"[:n], 0, "", api.ErrEnd)
	}
	for there := range 5 {
		for most := range 7 {
			e := api.ErrEnd
			if there > most {
				e = api.ErrBig
			}
			answers(t, "ends early", "\x01\x05\x00\xfa\xffabcde"[:5+there], most, "", e)
		}
	}
	answers(t, "just enough", "\x01\x05\x00\xfa\xffabcde", 5, "abcde", api.OK)
	answers(t, "one too few", "\x01\x05\x00\xfa\xffabcde", 4, "", api.ErrBig)
	answers(t, "of nothing", "\x01\x00\x00\xff\xff", 0, "", api.OK)
	answers(t, "most of two blocks", "\x00\x02\x00\xfd\xffab\x01\x02\x00\xfd\xffcd", 3, "", api.ErrBig)
	answers(t, "two blocks", "\x00\x02\x00\xfd\xffab\x01\x02\x00\xfd\xffcd", 4, "abcd", api.OK)
	answers(t, "bits that go by", "\xf9\x01\x00\xfe\xffa", 1, "a", api.OK)
	long := strings.Repeat("m", MaxStored)
	answers(t, "65535 bytes", "\x01\xff\xff\x00\x00"+long, MaxStored, long, api.OK)
	m := (&maker{}).number(2, 3).fixed('a', 256).number(1, 3)
	m.Bytes("\x01\x00\xfe\xffb")
	answers(t, "behind a fixed block", m.Text(), 2, "ab", api.OK)
}

func TestCounts(t *testing.T) {
	for _, x := range []struct {
		nl, nd int
		e      api.Errno
	}{{286, 30, api.ErrEnd}, {287, 30, api.ErrText}, {288, 1, api.ErrText}, {286, 31, api.ErrText}, {257, 32, api.ErrText}, {257, 1, api.ErrEnd}} {
		m := (&maker{}).number(5, 3).number(x.nl-257, 5).number(x.nd-1, 5).number(15, 4)
		answers(t, "counts", m.Text(), 9, "", x.e)
		answers(t, "counts cut", m.Text()[:2], 9, "", api.ErrEnd)
	}
}

func TestFirstSet(t *testing.T) {
	// The order of the stream begins 16, 17, 18, 0, 8.
	m := (&maker{}).head(257, 1, 1, 1, 1, 0, 0, 0, 0, 0, 0, 0)
	answers(t, "too many codes", m.Text(), 9, "", api.ErrText)
	answers(t, "too many codes, cut", m.Text()[:4], 9, "", api.ErrEnd)
	answers(t, "too few codes", (&maker{}).head(257, 1, 2, 2, 0, 0).Text(), 9, "", api.ErrText)
	answers(t, "one code of length 2", (&maker{}).head(257, 1, 0, 0, 2, 0).Text(), 9, "", api.ErrText)
	answers(t, "no code", (&maker{}).head(257, 1, 0, 0, 0, 0).Text(), 9, "", api.ErrText)
	// 17 bits and 3 each of 5: 32 bits, and none is left to be read as a symbol.
	answers(t, "no code, no bit", (&maker{}).head(257, 1, 0, 0, 0, 0, 0).Text(), 9, "", api.ErrText)
	answers(t, "one code, no bit", (&maker{}).head(257, 1, 0, 0, 1, 0, 0).Text(), 9, "", api.ErrEnd)
	answers(t, "one code, another bit", (&maker{}).head(257, 1, 0, 0, 1, 0, 0).number(1, 1).Text(), 9, "", api.ErrText)
}

// lengthsBy is a first set with codes for 0, 1, 2 and the repeats, in the order of the stream, and by symbols.
func lengthsBy() ([]int, []int) {
	bySymbol := make([]int, 19)
	bySymbol[0], bySymbol[1], bySymbol[2], bySymbol[16], bySymbol[17], bySymbol[18] = 2, 2, 3, 3, 3, 3
	order := []int{16, 17, 18, 0, 8, 7, 9, 6, 10, 5, 11, 4, 12, 3, 13, 2, 14, 1}
	var first []int
	for _, symbol := range order {
		first = append(first, bySymbol[symbol])
	}
	return first, bySymbol
}

func TestRepeatOfNothing(t *testing.T) {
	// Lengths 3, 3, 2, 1 of 16, 17, 18, 0: the codes 110, 111, 10, 0. 29 bits and the symbol's three: none is left for its own.
	m := (&maker{}).head(257, 1, 3, 3, 2, 1)
	answers(t, "16 first, no bit behind", m.code(6, 3).Text(), 9, "", api.ErrText)
	answers(t, "16 first", m.number(0, 2).Text(), 9, "", api.ErrText)
	m = (&maker{}).head(257, 1, 3, 3, 2, 1)
	answers(t, "17 first, no bit behind", m.code(7, 3).Text(), 9, "", api.ErrEnd)
	m = (&maker{}).head(257, 1, 3, 3, 2, 1)
	// 29 bits and the symbol's two: one is left for its seven.
	answers(t, "18 first, cut", m.code(2, 2).Text(), 9, "", api.ErrEnd)
}

// TestRepeats: repeats up to the end of all lengths, and beyond it.
func TestRepeats(t *testing.T) {
	first, bySymbol := lengthsBy()
	begin := func() *maker {
		m := (&maker{}).head(257, 2, first...)
		return m.by(t, bySymbol, 18).number(127, 7).by(t, bySymbol, 18).number(117-11, 7) // 255 noughts
	}
	// 255 and 256 have length 1, and so have both distances: four lengths.
	m := begin().by(t, bySymbol, 1, 16).number(0, 2)
	m.by(t, []int{1, 1}, 1)
	answers(t, "16 up to the end", m.Text(), 9, "", api.OK)
	for further := 1; further < 4; further++ {
		m = begin().by(t, bySymbol, 1, 16).number(further, 2)
		answers(t, "16 beyond the end", m.number(0, 20).Text(), 9, "", api.ErrText)
	}
	m = begin().by(t, bySymbol, 0, 1, 17).number(0, 3)
	answers(t, "17 beyond the end", m.number(0, 20).Text(), 9, "", api.ErrText)
	m = begin().by(t, bySymbol, 17).number(1, 3)
	answers(t, "17 up to the end: 256 has no code", m.Text(), 9, "", api.ErrText)
	m = begin().by(t, bySymbol, 0, 0, 18).number(0, 7)
	answers(t, "18 beyond the end", m.number(0, 20).Text(), 9, "", api.ErrText)
	// 16 behind noughts repeats a nought.
	m = (&maker{}).head(257, 2, first...).by(t, bySymbol, 18).number(127, 7)
	m.by(t, bySymbol, 18).number(114-11, 7).by(t, bySymbol, 16).number(0, 2)
	m.by(t, bySymbol, 1, 1, 0, 0).by(t, []int{1, 1}, 0, 1)
	answers(t, "16 behind noughts", m.Text(), 9, "\xff", api.OK)
}

// TestRepeatOfTheOther repeats the last literal's length for the distances.
func TestRepeatOfTheOther(t *testing.T) {
	first, bySymbol := lengthsBy()
	m := (&maker{}).head(258, 4, first...)
	m.by(t, bySymbol, 18).number(127, 7).by(t, bySymbol, 18).number(117-11, 7) // 255 noughts
	m.by(t, bySymbol, 2, 1, 2, 16).number(1, 2)                                // 255, 256, 257; four distances
	m.by(t, []int{2, 1, 2}, 0, 2).by(t, []int{2, 2, 2, 2}, 0).by(t, []int{2, 1, 2}, 1)
	answers(t, "repeats over both sets", m.Text(), 4, "\xff\xff\xff\xff", api.OK)
	answers(t, "one too few", m.Text(), 3, "", api.ErrBig)
}

// dynamicOf begins a last dynamic block of 258 literals, of which 'a', 256 and 257 have these lengths, and of these distances.
func dynamicOf(t *testing.T, a, end, three int, distances ...int) *maker {
	first, bySymbol := lengthsBy()
	m := (&maker{}).head(258, len(distances), first...)
	m.by(t, bySymbol, 18).number('a'-11, 7)
	m.by(t, bySymbol, a)
	m.by(t, bySymbol, 18).number(127, 7).by(t, bySymbol, 18).number(158-138-11, 7)
	m.by(t, bySymbol, end, three)
	return m.by(t, bySymbol, distances...)
}

func TestSets(t *testing.T) {
	set := []int{2, 1, 2} // 'a', 256, 257
	good := dynamicOf(t, 2, 1, 2, 1).by(t, set, 0, 2).number(0, 1).by(t, set, 1)
	answers(t, "one distance", good.Text(), 4, "aaaa", api.OK)
	other := dynamicOf(t, 2, 1, 2, 1).by(t, set, 0, 2).number(1, 1).by(t, set, 1)
	answers(t, "one distance, another bit", other.Text(), 4, "", api.ErrText)
	none := dynamicOf(t, 2, 1, 2, 0).by(t, set, 0, 2).number(0, 1).by(t, set, 1)
	answers(t, "no distance", none.Text(), 4, "", api.ErrText)
	answers(t, "no distance, none asked", dynamicOf(t, 2, 1, 2, 0).by(t, set, 0, 1).Text(), 4, "a", api.OK)
	answers(t, "256 has none", dynamicOf(t, 1, 0, 1, 1).Text(), 4, "", api.ErrText)
	answers(t, "256 alone", dynamicOf(t, 0, 1, 0, 1).number(0, 1).Text(), 0, "", api.OK)
	answers(t, "256 alone, another bit", dynamicOf(t, 0, 1, 0, 1).number(1, 1).Text(), 0, "", api.ErrText)
	answers(t, "256 alone, of two bits", dynamicOf(t, 0, 2, 0, 1).number(0, 9).Text(), 0, "", api.ErrText)
	answers(t, "too many literals", dynamicOf(t, 1, 1, 1, 1).number(0, 9).Text(), 0, "", api.ErrText)
	answers(t, "too few literals", dynamicOf(t, 2, 1, 0, 1).number(0, 9).Text(), 0, "", api.ErrText)
	answers(t, "too many distances", dynamicOf(t, 2, 1, 2, 1, 1, 2).number(0, 9).Text(), 0, "", api.ErrText)
	answers(t, "too few distances", dynamicOf(t, 2, 1, 2, 2, 1).number(0, 9).Text(), 0, "", api.ErrText)
	answers(t, "one distance of two bits", dynamicOf(t, 2, 1, 2, 2).number(0, 9).Text(), 0, "", api.ErrText)
}

// TestNoDistanceNoBit: where there are no distances, no bit is asked for.
func TestNoDistanceNoBit(t *testing.T) {
	set := []int{2, 2, 1}
	found := false
	for n := range 9 {
		m := dynamicOf(t, 2, 2, 1, 0)
		for range n {
			m.by(t, set, 0)
		}
		m.by(t, set, 2)
		s := m.Text()
		answers(t, "no distance", s, n, "", api.ErrText)
		found = found || len(m.number(0, 1).Text()) > len(s)
	}
	if !found {
		t.Error("no stream ended just behind a length")
	}
}

func TestNoSuchSymbols(t *testing.T) {
	// 3 bits, five literals of 9 and a symbol of 8 are 56: no bit is left behind it.
	for _, symbol := range []int{286, 287} {
		m := fixedBlockOf(200, 200, 200, 200, 200, symbol)
		answers(t, "a length, no bit behind", m.Text(), 9, "", api.ErrText)
		answers(t, "a length", m.number(0, 5).fixed(256).Text(), 9, "", api.ErrText)
	}
	answers(t, "285, no bit behind", fixedBlockOf(200, 200, 200, 200, 200, 285).Text(), 9, "", api.ErrEnd)
	for _, symbol := range []int{30, 31} {
		// 3 bits, three literals of 8, a length of 8 and a distance of 5 are 40: no bit is left.
		m := fixedBlockOf('a', 'a', 'a', 285).code(symbol, 5)
		answers(t, "a distance, no bit behind", m.Text(), 999, "", api.ErrText)
		answers(t, "a distance, most in the way", m.Text(), 3, "", api.ErrText)
	}
}

// TestFartherThanAll: distances up to what has come out, and beyond it.
func TestFartherThanAll(t *testing.T) {
	answers(t, "of nothing", fixedBlockOf(257).code(0, 5).fixed(256).Text(), 9, "", api.ErrText)
	answers(t, "all of it", fixedBlockOf('a', 'b', 257).code(1, 5).fixed(256).Text(), 5, "ababa", api.OK)
	answers(t, "one more", fixedBlockOf('a', 'b', 257).code(2, 5).fixed(256).Text(), 5, "", api.ErrText)
	answers(t, "one more, most in the way", fixedBlockOf('a', 'b', 257).code(2, 5).fixed(256).Text(), 2, "", api.ErrText)
	answers(t, "most in the way", fixedBlockOf('a', 'b', 257).code(1, 5).fixed(256).Text(), 4, "", api.ErrBig)
	// 3 bits, 8 * 8 and 7, 5: 79 bits, one is left for the distance's 13.
	m := fixedBlockOf('a', 'b', 'c', 'd', 'e', 'f', 'g', 'h', 257).code(29, 5)
	answers(t, "too far, its bits are wanting", m.Text(), 9, "", api.ErrEnd)
	answers(t, "too far", m.number(0, 13).Text(), 9, "", api.ErrText)
	m = (&maker{}).number(0, 3)
	m.Bytes("\x03\x00\xfc\xffabc")
	m.number(3, 3).fixed(257).code(2, 5).fixed(256)
	answers(t, "of the block ahead", m.Text(), 6, "abcabc", api.OK)
}

// TestAllLengths: each length and distance symbol with its least and its greatest further bits.
func TestAllLengths(t *testing.T) {
	random := []byte(strings.Repeat("0123456789abcdefghijklmnopqrstuvwxyz-", 1000))[:32768]
	for k := range random {
		random[k] ^= byte(k>>8) * 31
	}
	ahead := string(random)
	stored := "\x00\x00\x80\xff\x7f" + ahead
	for k, base := range lengthBases {
		for _, further := range []int{0, 1<<lengthBits[k] - 1} {
			m := fixedBlockOf(257+k).number(further, lengthBits[k]).code(29, 5).number(8191, 13).fixed(256)
			n := base + further
			answers(t, "length", stored+m.Text(), 32768+n, ahead+ahead[:n], api.OK)
		}
	}
	for k, base := range distanceBase {
		for _, further := range []int{0, 1<<distanceBits[k] - 1} {
			m := fixedBlockOf(257).code(k, 5).number(further, distanceBits[k]).fixed(256)
			far := ahead[32768-base-further:]
			answers(t, "distance", stored+m.Text(), 32771, ahead+(far + far + far)[:3], api.OK)
		}
	}
	m := fixedBlockOf(284).number(31, 5).code(0, 5).fixed(256)
	answers(t, "258 by 284", stored+m.Text(), 33026, ahead+strings.Repeat(ahead[32767:], 258), api.OK)
}

// TestAllLiterals: each byte by its fixed code.
func TestAllLiterals(t *testing.T) {
	for c := range 256 {
		answers(t, "literal", fixedBlockOf(c, 256).Text(), 1, string([]byte{byte(c)}), api.OK)
		answers(t, "literal, one too few", fixedBlockOf(c, 256).Text(), 0, "", api.ErrBig)
	}
}
