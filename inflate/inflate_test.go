package inflate

import (
	"bytes"
	"compress/flate"
	"math"
	"math/rand"
	"strings"
	"testing"

	"cartulary/api"
)

// packed: a text as the library writes it.
func packed(t *testing.T, text string, level int) string {
	t.Helper()
	var b bytes.Buffer
	w, err := flate.NewWriter(&b, level)
	if err != nil {
		t.Fatal(err)
	}
	w.Write([]byte(text))
	w.Close()
	return b.String()
}

// noise: bytes at random, of so many kinds.
func noise(random *rand.Rand, n, kinds int) string {
	b := make([]byte, n)
	for i := range b {
		b[i] = byte(random.Intn(kinds) * 255 / kinds)
	}
	return string(b)
}

// words: a text of words that come back.
func words(random *rand.Rand, n int) string {
	list := strings.Fields("module require commit tree blob tag a of the and example.com/repo v1.0.0 \x00\xff\x80")
	var b strings.Builder
	for b.Len() < n {
		b.WriteString(list[random.Intn(len(list))])
		b.WriteByte(" \n\t"[random.Intn(3)])
	}
	return b.String()[:n]
}

// someTexts: texts of many shapes.
func someTexts() []string {
	random := rand.New(rand.NewSource(5))
	texts := []string{"", "a", "ab", "aaa", "aaaa", "abcabcabc", strings.Repeat("x", 258), strings.Repeat("x", 259), strings.Repeat("x", 260)}
	for _, n := range []int{10, 300, 5000, 40000, 65535, 65536} {
		texts = append(texts, noise(random, n, 255), noise(random, n, 3), words(random, n), strings.Repeat("y", n))
	}
	far := noise(random, 300, 255)
	for _, gap := range []int{32767, 32768, 32769} {
		texts = append(texts, far+strings.Repeat("-", gap-len(far))+far)
	}
	var all []byte
	for c := range 256 {
		all = append(all, byte(c))
	}
	return append(texts, string(all), string(all)+string(all))
}

// P5.1: streams that were written by others are read; most is just enough, or one too few.
func TestOthersStreams(t *testing.T) {
	for _, text := range someTexts() {
		for _, level := range []int{flate.HuffmanOnly, flate.NoCompression, 1, 6, 9} {
			s := packed(t, text, level)
			if got, n, e := Inflate(s, 0, len(text)); got != text || n != len(s) || e != api.OK {
				t.Fatalf("%d bytes, level %d: %d bytes, %d of %d, %d", len(text), level, len(got), n, len(s), e)
			}
			if text == "" {
				continue
			}
			if got, n, e := Inflate(s, 0, len(text)-1); got != "" || n != 0 || e != api.ErrBig {
				t.Fatalf("%d bytes, level %d, one too few: %d bytes, %d, %d", len(text), level, len(got), n, e)
			}
		}
	}
}

// P5.1: arguments outside their ranges come ahead of all else.
func TestArguments(t *testing.T) {
	good, bad := "\x4b\x04\x00", "\x07\x07\x07"
	for _, s := range []string{good, bad, ""} {
		for _, x := range [][2]int{{-1, 9}, {len(s) + 1, 9}, {0, -1}, {0, api.MaxBytes + 1}, {math.MinInt, 9}, {math.MaxInt, 9}, {0, math.MinInt}, {0, math.MaxInt}, {-1, -1}} {
			if text, n, e := Inflate(s, x[0], x[1]); text != "" || n != 0 || e != api.ErrArg {
				t.Errorf("Inflate(%x, %d, %d): %q, %d, %d", s, x[0], x[1], text, n, e)
			}
		}
		if text, n, e := Inflate(s, len(s), api.MaxBytes); text != "" || n != 0 || e != api.ErrEnd {
			t.Errorf("Inflate(%x) at its end: %q, %d, %d", s, text, n, e)
		}
	}
	if text, n, e := Inflate(good, 0, api.MaxBytes); text != "a" || n != 3 || e != api.OK {
		t.Errorf("most MaxBytes: %q, %d, %d", text, n, e)
	}
	if text, n, e := Inflate("\x03\x00", 0, 0); text != "" || n != 2 || e != api.OK {
		t.Errorf("nothing with most 0: %q, %d, %d", text, n, e)
	}
}

// P5.1: MaxBytes bytes come out, and not one more.
func TestMostOfAll(t *testing.T) {
	for _, level := range []int{flate.NoCompression, 9} {
		s := packed(t, strings.Repeat("z", api.MaxBytes), level)
		if text, n, e := Inflate(s, 0, api.MaxBytes); len(text) != api.MaxBytes || n != len(s) || e != api.OK {
			t.Errorf("MaxBytes, level %d: %d, %d, %d", level, len(text), n, e)
		}
		s = packed(t, strings.Repeat("z", api.MaxBytes+1), level)
		if text, n, e := Inflate(s, 0, api.MaxBytes); text != "" || n != 0 || e != api.ErrBig {
			t.Errorf("one more, level %d: %d, %d, %d", level, len(text), n, e)
		}
	}
}

// P5.1: the examples of the document.
func TestExamples(t *testing.T) {
	for _, x := range []struct {
		s    string
		most int
		text string
		n    int
		e    api.Errno
	}{
		{"\x03\x00", 9, "", 2, api.OK},
		{"\x4b\x04\x00", 9, "a", 3, api.OK},
		{"\x4b\x04\x00", 0, "", 0, api.ErrBig},
		{"\x4b\x04", 9, "", 0, api.ErrEnd},
		{"\x07", 9, "", 0, api.ErrText},
		{"\x01\x02\x00\xfd\xff\x61\x62", 9, "ab", 7, api.OK},
		{"\x01\x02\x00\xfd\xfe\x61\x62", 9, "", 0, api.ErrText},
		{"\x01\x02\x00\xfd\xff\x61", 9, "", 0, api.ErrEnd},
		{"\x01\x02\x00\xfd\xff\x61", 0, "", 0, api.ErrBig},
	} {
		if text, n, e := Inflate(x.s, 0, x.most); text != x.text || n != x.n || e != x.e {
			t.Errorf("Inflate(%x, 0, %d): %q, %d, %d", x.s, x.most, text, n, e)
		}
	}
}

// P5.1: all streams of one and of two bytes.
func TestAllShortStreams(t *testing.T) {
	for a := range 256 {
		same(t, string([]byte{byte(a)}), 0, 1)
		for b := range 256 {
			s := string([]byte{byte(a), byte(b)})
			same(t, s, 0, api.MaxBytes)
			same(t, s, 0, 0)
			same(t, s, 1, 1)
		}
	}
}

// P5.1: a stream that is cut short says so at every place.
func TestCutShort(t *testing.T) {
	random := rand.New(rand.NewSource(7))
	for _, text := range []string{"", "a", words(random, 500), noise(random, 700, 40), strings.Repeat("ab", 400)} {
		for _, level := range []int{flate.HuffmanOnly, flate.NoCompression, 1, 9} {
			s := packed(t, text, level)
			for n := range len(s) {
				if text, used, e := Inflate(s[:n], 0, api.MaxBytes); text != "" || used != 0 || e != api.ErrEnd {
					t.Fatalf("%x cut at %d: %q, %d, %d", s, n, text, used, e)
				}
				same(t, s[:n], 0, random.Intn(len(text)+1))
			}
		}
	}
}

// P5.1: streams with bits turned, and cut, with any most.
func TestSpoiltStreams(t *testing.T) {
	random := rand.New(rand.NewSource(11))
	seen := map[api.Errno]int{}
	for range 3000 {
		text := words(random, 1+random.Intn(250))
		if random.Intn(2) == 0 {
			text = noise(random, 1+random.Intn(250), 1+random.Intn(60))
		}
		s := []byte(packed(t, text, []int{-2, 0, 1, 6, 9}[random.Intn(5)]))
		for k := random.Intn(4); k > 0; k-- {
			// Most of what can go wrong is in the heads.
			s[random.Intn(min(len(s), 1+random.Intn(80)))] ^= 1 << random.Intn(8)
		}
		if random.Intn(4) == 0 {
			s = s[:random.Intn(len(s)+1)]
		}
		most := []int{api.MaxBytes, len(text), random.Intn(300)}[random.Intn(3)]
		seen[same(t, string(s), 0, most)]++
	}
	for _, e := range []api.Errno{api.OK, api.ErrBig, api.ErrText, api.ErrEnd} {
		if seen[e] < 100 {
			t.Errorf("error %d came %d times alone", e, seen[e])
		}
	}
}

// P5.1: bytes at random, behind each kind of head.
func TestNoise(t *testing.T) {
	random := rand.New(rand.NewSource(13))
	for range 20000 {
		s := []byte(noise(random, random.Intn(60), 255))
		if len(s) > 0 {
			s[0] = s[0]&^7 | byte(random.Intn(8))
		}
		same(t, string(s), random.Intn(len(s)+1)*random.Intn(2), random.Intn(100))
	}
}

// P5.3: what stands behind a stream, or ahead of it, doesn't matter.
func TestBytesAround(t *testing.T) {
	random := rand.New(rand.NewSource(17))
	for _, text := range []string{"", "a", words(random, 3000), noise(random, 3000, 255), strings.Repeat("q", 5000)} {
		for _, s := range []string{Stored(text), Deflate(text), packed(t, text, 9), packed(t, text, flate.HuffmanOnly)} {
			for _, behind := range []string{"\x00", "\xff", "\x07", s, noise(random, 40, 255)} {
				for _, ahead := range []string{"", "\x07", s, noise(random, 40, 255)} {
					got, n, e := Inflate(ahead+s+behind, len(ahead), len(text))
					if got != text || n != len(s) || e != api.OK {
						t.Fatalf("%d bytes between %x and %x: %d bytes, %d, %d", len(s), ahead, behind, len(got), n, e)
					}
				}
			}
		}
	}
}

// P5.3: bits of the last byte behind the end of the stream don't matter either.
func TestBitsBehind(t *testing.T) {
	for spare := range 64 {
		s := string([]byte{0x03, byte(spare) << 2})
		if text, n, e := Inflate(s, 0, 0); text != "" || n != 2 || e != api.OK {
			t.Errorf("Inflate(%x): %q, %d, %d", s, text, n, e)
		}
	}
	// So it is with the bits that go by ahead of a stored block's lengths.
	for spare := range 32 {
		s := string([]byte{0x01 | byte(spare)<<3}) + "\x01\x00\xfe\xffx"
		if text, n, e := Inflate(s, 0, 1); text != "x" || n != 6 || e != api.OK {
			t.Errorf("Inflate(%x): %q, %d, %d", s, text, n, e)
		}
	}
}
