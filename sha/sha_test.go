package sha

import (
	"crypto/sha1"
	"crypto/sha256"
	"encoding/hex"
	"strings"
	"testing"
)

// sample: n bytes of all values in no plain order, always the same.
func sample(n int) string {
	b := make([]byte, n)
	x := uint32(12345)
	for i := range b {
		x = x*1664525 + 1013904223
		b[i] = byte(x >> 24)
	}
	return string(b)
}

func want1(t string) string {
	h := sha1.Sum([]byte(t))
	return string(h[:])
}

func want256(t string) string {
	h := sha256.Sum256([]byte(t))
	return string(h[:])
}

func hexOf(s string) string {
	return hex.EncodeToString([]byte(s))
}

// P2.1: the published examples.
func TestKnownSums(t *testing.T) {
	for _, c := range []struct{ text, sum1, sum256 string }{
		{"", "da39a3ee5e6b4b0d3255bfef95601890afd80709", "e3b0c44298fc1c149afbf4c8996fb92427ae41e4649b934ca495991b7852b855"},
		{"abc", "a9993e364706816aba3e25717850c26c9cd0d89d", "ba7816bf8f01cfea414140de5dae2223b00361a396177a9cb410ff61f20015ad"},
		{
			"abcdbcdecdefdefgefghfghighijhijkijkljklmklmnlmnomnopnopq",
			"84983e441c3bd26ebaae4aa1f95129e5e54670f1",
			"248d6a61d20638b8e5c026930c3e6039a33ce45964ff2167f6ecedd419db06c1",
		},
		{
			strings.Repeat("a", 1000000),
			"34aa973cd4c4daa4f61eeb2bdbad27316534016f",
			"cdc76e5c9914fb9281a1c7e284d73e67f1809a48a497200e046d39ccc7112cd0",
		},
	} {
		if got := hexOf(Sum1(c.text)); got != c.sum1 {
			t.Errorf("Sum1 of %d bytes = %s, want %s", len(c.text), got, c.sum1)
		}
		if got := hexOf(Sum256(c.text)); got != c.sum256 {
			t.Errorf("Sum256 of %d bytes = %s, want %s", len(c.text), got, c.sum256)
		}
	}
}

// P2.1: every length around the ends of the first blocks, of all bytes alike and of unlike ones.
func TestEveryLength(t *testing.T) {
	for n := 0; n <= 400; n++ {
		for _, text := range []string{sample(n), strings.Repeat("\x00", n), strings.Repeat("\xff", n), strings.Repeat("\x80", n)} {
			if got, want := Sum1(text), want1(text); got != want {
				t.Errorf("Sum1 of %d bytes = %s, want %s", n, hexOf(got), hexOf(want))
			}
			if got, want := Sum256(text), want256(text); got != want {
				t.Errorf("Sum256 of %d bytes = %s, want %s", n, hexOf(got), hexOf(want))
			}
		}
	}
}

// P2.1: the length in bits has bytes of every place up to the fourth.
func TestLongText(t *testing.T) {
	text := sample(4<<20 + 77)
	if Sum1(text) != want1(text) || Sum256(text) != want256(text) {
		t.Error("a long text's sum is wrong")
	}
}

// P2.1: the length in bits goes beyond 32 bits, and is taken modulo 2^64.
func TestPadding(t *testing.T) {
	for _, c := range []struct {
		size   uint64
		length string
	}{
		{0, "\x00\x00\x00\x00\x00\x00\x00\x00"},
		{55, "\x00\x00\x00\x00\x00\x00\x01\xb8"},
		{56, "\x00\x00\x00\x00\x00\x00\x01\xc0"},
		{1 << 29, "\x00\x00\x00\x01\x00\x00\x00\x00"},
		{1<<61 - 1, "\xff\xff\xff\xff\xff\xff\xff\xf8"},
		{1<<61 + 1, "\x00\x00\x00\x00\x00\x00\x00\x08"},
	} {
		pad := padding(c.size)
		if (c.size+uint64(len(pad)))%64 != 0 || len(pad) < 9 || len(pad) > 72 {
			t.Errorf("padding behind %d bytes: %d bytes", c.size, len(pad))
			continue
		}
		if want := "\x80" + strings.Repeat("\x00", len(pad)-9) + c.length; pad != want {
			t.Errorf("padding behind %d bytes: %q, want %q", c.size, pad, want)
		}
	}
}

// P2.2: nothing written, in one way or another.
func TestZeroHashes(t *testing.T) {
	var h1 Hash1
	var h256 Hash256
	for i := 0; i < 3; i++ {
		if h1.Sum() != want1("") || h256.Sum() != want256("") {
			t.Errorf("after %d empty texts: %s, %s", i, hexOf(h1.Sum()), hexOf(h256.Sum()))
		}
		h1.Write("")
		h256.Write("")
	}
	h1.Write("abc")
	h256.Write("abc")
	if h1.Sum() != want1("abc") || h256.Sum() != want256("abc") {
		t.Error("a text behind empty ones")
	}
}

// P2.2: two parts, cut everywhere, asked between them.
func TestTwoParts(t *testing.T) {
	for _, n := range []int{1, 55, 56, 63, 64, 65, 119, 120, 127, 128, 129, 200} {
		text := sample(n)
		for cut := 0; cut <= n; cut++ {
			var h1 Hash1
			var h256 Hash256
			h1.Write(text[:cut])
			h256.Write(text[:cut])
			for i := 0; i < 2; i++ {
				if h1.Sum() != want1(text[:cut]) || h256.Sum() != want256(text[:cut]) {
					t.Errorf("the first %d of %d bytes", cut, n)
				}
			}
			h1.Write(text[cut:])
			h256.Write(text[cut:])
			if h1.Sum() != want1(text) || h256.Sum() != want256(text) {
				t.Errorf("%d bytes, cut at %d", n, cut)
			}
		}
	}
}

// P2.2: parts of one length, from a byte to more than two blocks, with empty ones between.
func TestManyParts(t *testing.T) {
	text := sample(1000)
	for step := 1; step <= 150; step++ {
		var h1 Hash1
		var h256 Hash256
		for at := 0; at < len(text); at += step {
			part := text[at:min(at+step, len(text))]
			h1.Write(part)
			h256.Write(part)
			h1.Write("")
			h256.Write("")
		}
		if h1.Sum() != want1(text) || h256.Sum() != want256(text) {
			t.Errorf("in parts of %d bytes", step)
		}
	}
}

// P2.2: a copy goes on from where it was made, and leaves the first one as it is.
func TestHashesApart(t *testing.T) {
	front, more := sample(70), sample(130)
	var h1 Hash1
	var h256 Hash256
	h1.Write(front)
	h256.Write(front)
	copy1, copy256 := h1, h256
	copy1.Write(more)
	copy256.Write(more)
	if h1.Sum() != want1(front) || h256.Sum() != want256(front) {
		t.Error("a copy's text went into the first hash")
	}
	if copy1.Sum() != want1(front+more) || copy256.Sum() != want256(front+more) {
		t.Error("a copy does not go on from where it was made")
	}
}
