package sums

import (
	"hash/adler32"
	"hash/crc32"
	"strings"
	"testing"
)

// sample: n bytes of all values in no plain order, always the same.
func sample(n int) string {
	b := make([]byte, n)
	x := uint32(12345)
	for i := range b {
		x = x*1664525 + 1013904223
		b[i] = byte(x >> 24)
	}
	return string(b)
}

// texts: ordinary texts, and those at the edges of the sums' arithmetic.
func texts() []string {
	list := []string{
		"\x00", "\xff", "\x00\x00\x00\x00", "123456789", "Wikipedia",
		strings.Repeat("\x00", 70000), strings.Repeat("\xff", 70000), sample(100000),
	}
	for n := 0; n <= 300; n++ {
		list = append(list, sample(n))
	}
	return list
}

// P1.1
func TestKnownSums(t *testing.T) {
	for _, c := range []struct {
		text       string
		crc, adler uint32
	}{
		{"", 0, 1},
		{"123456789", 0xcbf43926, 0x091e01de},
		{"Wikipedia", 0xadaac02e, 0x11e60398},
		{"\x00", 0xd202ef8d, 0x00010001},
		{"a", 0xe8b7be43, 0x00620062},
	} {
		if got := Crc32(c.text); got != c.crc {
			t.Errorf("Crc32(%q) = %08x, want %08x", c.text, got, c.crc)
		}
		if got := Adler32(c.text); got != c.adler {
			t.Errorf("Adler32(%q) = %08x, want %08x", c.text, got, c.adler)
		}
	}
}

// P1.1
func TestSumsOfManyTexts(t *testing.T) {
	for _, text := range texts() {
		if got, want := Crc32(text), crc32.ChecksumIEEE([]byte(text)); got != want {
			t.Errorf("Crc32 of %d bytes = %08x, want %08x", len(text), got, want)
		}
		if got, want := Adler32(text), adler32.Checksum([]byte(text)); got != want {
			t.Errorf("Adler32 of %d bytes = %08x, want %08x", len(text), got, want)
		}
	}
}

// P1.1: each byte goes through the cyclic sum in a way of its own.
func TestSumsOfEachByte(t *testing.T) {
	for c := 0; c < 256; c++ {
		text := string([]byte{byte(c)})
		if got, want := Crc32(text), crc32.ChecksumIEEE([]byte(text)); got != want {
			t.Errorf("Crc32(%q) = %08x, want %08x", text, got, want)
		}
		if got, want := Adler32(text), adler32.Checksum([]byte(text)); got != want {
			t.Errorf("Adler32(%q) = %08x, want %08x", text, got, want)
		}
	}
}

// P1.1: nothing written, in one way or another.
func TestZeroSums(t *testing.T) {
	var c Crc
	var a Adler
	for i := 0; i < 3; i++ {
		if c.Sum() != 0 || a.Sum() != 1 {
			t.Errorf("after %d empty texts: %08x, %08x", i, c.Sum(), a.Sum())
		}
		c.Write("")
		a.Write("")
	}
}

// P1.1: in whatever parts, and asked between them.
func TestSumsInParts(t *testing.T) {
	text := sample(200)
	for cut := 0; cut <= len(text); cut++ {
		var c Crc
		var a Adler
		c.Write(text[:cut])
		a.Write(text[:cut])
		for i := 0; i < 2; i++ {
			if c.Sum() != Crc32(text[:cut]) || a.Sum() != Adler32(text[:cut]) {
				t.Errorf("the first %d bytes: %08x, %08x", cut, c.Sum(), a.Sum())
			}
		}
		c.Write(text[cut:])
		a.Write(text[cut:])
		if c.Sum() != Crc32(text) || a.Sum() != Adler32(text) {
			t.Errorf("cut at %d: %08x, %08x", cut, c.Sum(), a.Sum())
		}
	}
}

// P1.1
func TestSumsByteByByte(t *testing.T) {
	text := strings.Repeat("\xff", 70000)
	var c Crc
	var a Adler
	for i := range len(text) {
		c.Write(text[i : i+1])
		a.Write(text[i : i+1])
	}
	if c.Sum() != Crc32(text) || a.Sum() != Adler32(text) {
		t.Errorf("byte by byte: %08x, %08x", c.Sum(), a.Sum())
	}
}

// P1.1: Adler's a is 0, which is kept as the number below it.
func TestAdlerAtTheTurn(t *testing.T) {
	for _, last := range []string{"\xef", "\xf0", "\xf1"} {
		front := strings.Repeat("\xff", 256) + last
		var a Adler
		a.Write(front)
		if got, want := a.Sum(), adler32.Checksum([]byte(front)); got != want {
			t.Errorf("Sum behind %q = %08x, want %08x", last, got, want)
		}
		a.Write("more")
		if got, want := a.Sum(), adler32.Checksum([]byte(front+"more")); got != want {
			t.Errorf("Sum behind %q and more = %08x, want %08x", last, got, want)
		}
	}
}

// P1.1: two sums, and a copy of one, have nothing to do with each other.
func TestSumsApart(t *testing.T) {
	var c Crc
	var a Adler
	c.Write("one")
	a.Write("one")
	c2, a2 := c, a
	c2.Write(" two")
	a2.Write(" two")
	if c.Sum() != Crc32("one") || a.Sum() != Adler32("one") {
		t.Error("a copy's text went into the first sum")
	}
	if c2.Sum() != Crc32("one two") || a2.Sum() != Adler32("one two") {
		t.Error("a copy does not go on from where it was made")
	}
}
