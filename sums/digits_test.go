package sums

import (
	"encoding/base64"
	"encoding/hex"
	"strings"
	"testing"
)

// P1.2
func TestHex(t *testing.T) {
	for text, want := range map[string]string{
		"": "", "\x00": "00", "\x0f\xf0": "0ff0", "\xab\xcd\xef": "abcdef", "012": "303132",
	} {
		if got := Hex(text); got != want {
			t.Errorf("Hex(%q) = %q, want %q", text, got, want)
		}
	}
	for _, text := range texts() {
		digits := Hex(text)
		if digits != hex.EncodeToString([]byte(text)) {
			t.Errorf("Hex of %d bytes is wrong", len(text))
		}
		if back, ok := Unhex(digits); !ok || back != text {
			t.Errorf("Unhex of the Hex of %d bytes: %t, or other bytes", len(text), ok)
		}
	}
}

// P1.2: only 0 to 9 and a to f are digits, at either place.
func TestUnhexOfEachPair(t *testing.T) {
	for high := 0; high < 256; high++ {
		for low := 0; low < 256; low++ {
			s := string([]byte{byte(high), byte(low)})
			value := strings.IndexByte("0123456789abcdef", byte(high))*16 + strings.IndexByte("0123456789abcdef", byte(low))
			want, wantOk := "", isDigit(byte(high)) && isDigit(byte(low))
			if wantOk {
				want = string([]byte{byte(value)})
			}
			if got, ok := Unhex(s); got != want || ok != wantOk {
				t.Errorf("Unhex(%q) = %q, %t", s, got, ok)
			}
		}
	}
}

func isDigit(c byte) bool {
	return strings.IndexByte("0123456789abcdef", c) >= 0
}

// P1.2
func TestUnhexWrong(t *testing.T) {
	if got, ok := Unhex(""); got != "" || !ok {
		t.Errorf("Unhex of nothing = %q, %t", got, ok)
	}
	for _, s := range []string{
		"0", "0G", "AB", "aB", "g0", "123", "00000", "00 0", " 00", "0x00", "00zz", "zz00", "0000G0", "é", "\x00\x00", "00\n",
	} {
		if got, ok := Unhex(s); got != "" || ok {
			t.Errorf("Unhex(%q) = %q, %t", s, got, ok)
		}
	}
}

// P1.2
func TestId(t *testing.T) {
	name := "da39a3ee5e6b4b0d3255bfef95601890afd80709"
	if !Id(name) || !Id(strings.Repeat("0", 40)) || !Id(strings.Repeat("f", 40)) {
		t.Error("a name is refused")
	}
	for _, s := range []string{"", "0", name[1:], name + "0", name + name, strings.ToUpper(name), " " + name[1:], name[:39] + "\n"} {
		if Id(s) {
			t.Errorf("Id(%q)", s)
		}
	}
	for place := range name {
		for c := 0; c < 256; c++ {
			s := name[:place] + string([]byte{byte(c)}) + name[place+1:]
			if Id(s) != isDigit(byte(c)) {
				t.Errorf("Id(%q) = %t", s, Id(s))
			}
		}
	}
}

// P1.2
func TestBase64(t *testing.T) {
	for text, want := range map[string]string{
		"": "", "f": "Zg==", "fo": "Zm8=", "foo": "Zm9v", "foob": "Zm9vYg==", "fooba": "Zm9vYmE=", "foobar": "Zm9vYmFy",
		"\xff\xff\xff": "////", "\xfb\xef\xbe": "++++", "\x00": "AA==", "\x00\x00": "AAA=", "\x00\x00\x00": "AAAA", "\xff": "/w==", "\xff\xff": "//8=",
	} {
		if got := Base64(text); got != want {
			t.Errorf("Base64(%q) = %q, want %q", text, got, want)
		}
	}
	for _, text := range texts() {
		if got, want := Base64(text), base64.StdEncoding.EncodeToString([]byte(text)); got != want {
			t.Errorf("Base64 of %d bytes is wrong", len(text))
		}
	}
}
