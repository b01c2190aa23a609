package sums

import (
	"encoding/binary"
	"math"
	"slices"
	"strings"
	"testing"
)

// turned: the bytes of s, the last one first.
func turned(s string) string {
	b := []byte(s)
	slices.Reverse(b)
	return string(b)
}

// P1.3
func TestBigAndLittle(t *testing.T) {
	for _, c := range []struct {
		x   uint64
		n   int
		big string
	}{
		{258, 2, "\x01\x02"},
		{258, 3, "\x00\x01\x02"},
		{258, 1, "\x02"},
		{0, 1, "\x00"},
		{0, 4, "\x00\x00\x00\x00"},
		{1, 9, "\x00\x00\x00\x00\x00\x00\x00\x00\x01"},
		{0x0102030405060708, 7, "\x02\x03\x04\x05\x06\x07\x08"},
		{0x0102030405060708, 8, "\x01\x02\x03\x04\x05\x06\x07\x08"},
		{0x0102030405060708, 9, "\x00\x01\x02\x03\x04\x05\x06\x07\x08"},
		{0x0100000000000000, 8, "\x01\x00\x00\x00\x00\x00\x00\x00"},
		{0x0100000000000000, 7, "\x00\x00\x00\x00\x00\x00\x00"},
		{math.MaxUint64, 8, "\xff\xff\xff\xff\xff\xff\xff\xff"},
		{math.MaxUint64, 10, "\x00\x00\xff\xff\xff\xff\xff\xff\xff\xff"},
		{math.MaxUint64, 3, "\xff\xff\xff"},
		{258, 0, ""},
		{258, -1, ""},
		{258, math.MinInt, ""},
	} {
		if got := Big(c.x, c.n); got != c.big {
			t.Errorf("Big(%#x, %d) = %q, want %q", c.x, c.n, got, c.big)
		}
		if got, want := Little(c.x, c.n), turned(c.big); got != want {
			t.Errorf("Little(%#x, %d) = %q, want %q", c.x, c.n, got, want)
		}
	}
}

// P1.3: every width that callers ask for.
func TestEveryWidth(t *testing.T) {
	for _, x := range []uint64{0, 1, 255, 256, 1 << 32, 1<<63 + 5, 0x0102030405060708, math.MaxUint64} {
		whole := strings.Repeat("\x00", 56) + string(binary.BigEndian.AppendUint64(nil, x))
		for n := 0; n <= 64; n++ {
			want := whole[64-n:]
			if got := Big(x, n); got != want {
				t.Errorf("Big(%#x, %d) = %q, want %q", x, n, got, want)
			}
			if got := Little(x, n); got != turned(want) {
				t.Errorf("Little(%#x, %d) = %q, want %q", x, n, got, turned(want))
			}
			if n >= 8 && (FromBig(Big(x, n)) != x || FromLittle(Little(x, n)) != x) {
				t.Errorf("%#x in %d bytes is read as another number", x, n)
			}
		}
	}
}

// P1.3 and K7: a width that nothing could hold.
func TestWidthOutOfBounds(t *testing.T) {
	if Big(1, math.MaxInt) != "" || Little(1, math.MaxInt) != "" {
		t.Error("bytes beyond all bounds")
	}
}

// P1.3
func TestFromBigAndFromLittle(t *testing.T) {
	for _, c := range []struct {
		s           string
		big, little uint64
	}{
		{"", 0, 0},
		{"\x00", 0, 0},
		{"\xff", 255, 255},
		{"\x01\x02", 0x0102, 0x0201},
		{"\x01\x02\x03", 0x010203, 0x030201},
		{"\x01\x02\x03\x04\x05\x06\x07\x08", 0x0102030405060708, 0x0807060504030201},
		{"\x01\x02\x03\x04\x05\x06\x07\x08\x09", 0x0203040506070809, 0x0807060504030201},
		{"\x01\x00\x00\x00\x00\x00\x00\x00\x05", 5, 1},
		{"\xff\xff\xff\xff\xff\xff\xff\xff", math.MaxUint64, math.MaxUint64},
	} {
		if got := FromBig(c.s); got != c.big {
			t.Errorf("FromBig(%q) = %#x, want %#x", c.s, got, c.big)
		}
		if got := FromLittle(c.s); got != c.little {
			t.Errorf("FromLittle(%q) = %#x, want %#x", c.s, got, c.little)
		}
	}
	for n := 8; n <= 100; n++ {
		s := sample(n)
		if got, want := FromBig(s), binary.BigEndian.Uint64([]byte(s[n-8:])); got != want {
			t.Errorf("FromBig of %d bytes = %#x, want %#x", n, got, want)
		}
		if got, want := FromLittle(s), binary.LittleEndian.Uint64([]byte(s[:8])); got != want {
			t.Errorf("FromLittle of %d bytes = %#x, want %#x", n, got, want)
		}
	}
}
