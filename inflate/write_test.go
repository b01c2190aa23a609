package inflate

import (
	"compress/flate"
	"io"
	"math/rand"
	"strings"
	"testing"

	"cartulary/api"
)

// slowStored lays stored blocks out by the document's words alone.
func slowStored(s string) string {
	var out []byte
	for {
		n, last := len(s), byte(1)
		if n > 65535 {
			n, last = 65535, 0
		}
		out = append(out, last, byte(n%256), byte(n/256), byte(255-n%256), byte(255-n/256))
		out = append(out, s[:n]...)
		if s = s[n:]; last == 1 {
			return string(out)
		}
	}
}

// P5.2: Stored is blocks of MaxStored bytes and one of what is left.
func TestStored(t *testing.T) {
	if s := Stored("ab"); s != "\x01\x02\x00\xfd\xff\x61\x62" {
		t.Errorf("Stored(ab): %x", s)
	}
	if s := Stored(""); s != "\x01\x00\x00\xff\xff" {
		t.Errorf("Stored of nothing: %x", s)
	}
	random := rand.New(rand.NewSource(23))
	for _, n := range []int{0, 1, 255, 256, 65534, 65535, 65536, 131069, 131070, 131071, 200000} {
		text := noise(random, n, 255)
		s := Stored(text)
		if s != slowStored(text) {
			t.Errorf("Stored of %d bytes is otherwise", n)
		}
		if blocks := max((n+65534)/65535, 1); len(s) != n+5*blocks {
			t.Errorf("Stored of %d bytes: %d", n, len(s))
		}
	}
}

// readsBack holds what was written against what Inflate says of it.
func readsBack(t *testing.T, what, s, text string) {
	t.Helper()
	if got, n, e := Inflate(s, 0, api.MaxBytes); got != text || n != len(s) || e != api.OK {
		t.Fatalf("%s of %d bytes: %d bytes, %d of %d, %d", what, len(text), len(got), n, len(s), e)
	}
	if got, n, e := Inflate(s, 0, len(text)); got != text || n != len(s) || e != api.OK {
		t.Fatalf("%s of %d bytes, most just enough: %d bytes, %d of %d, %d", what, len(text), len(got), n, len(s), e)
	}
}

// bothWays writes a text in both ways and reads it back.
func bothWays(t *testing.T, text string) {
	t.Helper()
	stored, deflated := Stored(text), Deflate(text)
	readsBack(t, "Stored", stored, text)
	readsBack(t, "Deflate", deflated, text)
	if len(deflated) > len(stored) {
		t.Fatalf("Deflate of %d bytes is longer than Stored: %d", len(text), len(deflated))
	}
	if again := Deflate(text); again != deflated {
		t.Fatalf("Deflate of %d bytes is answered in two ways", len(text))
	}
}

// P5.2: what was written is read back, also the empty text, 65535 and 65536 bytes.
func TestReadBack(t *testing.T) {
	for _, text := range someTexts() {
		bothWays(t, text)
	}
	random := rand.New(rand.NewSource(29))
	for range 2000 {
		n, kinds := random.Intn(400), 1+random.Intn(255)
		bothWays(t, noise(random, n, kinds))
		bothWays(t, words(random, n))
	}
}

// P5.2: all texts of up to nine letters of two.
func TestReadBackShort(t *testing.T) {
	for n := range 10 {
		for x := range 1 << n {
			text := make([]byte, n)
			for i := range text {
				text[i] = "a\xf0"[x>>i&1]
			}
			bothWays(t, string(text))
		}
	}
}

// P5.2: each length of a repeat, at each power of two and beside it.
func TestReadBackRepeats(t *testing.T) {
	random := rand.New(rand.NewSource(31))
	piece := noise(random, 300, 255)
	for n := range 261 {
		bothWays(t, piece[:n]+"--"+piece[:n]+"+")
		bothWays(t, strings.Repeat("r", n))
	}
	gap := noise(random, 33000, 255)
	for far := 1; far <= 32768; far *= 2 {
		for _, at := range []int{far - 1, far, far + 1} {
			bothWays(t, (piece[:20] + gap)[:max(at, 20)]+piece[:20])
		}
	}
}

// P5.2: repeats are told as such.
func TestDeflateIsShort(t *testing.T) {
	if n := len(Deflate(strings.Repeat("x", 60000))); n > 1000 {
		t.Errorf("60000 alike: %d bytes", n)
	}
	if n := len(Deflate(strings.Repeat("abc", 300))); n > 50 {
		t.Errorf("300 threes: %d bytes", n)
	}
}

// Beyond MaxBytes a stream is still one: others read it.
func TestBeyondMaxBytes(t *testing.T) {
	random := rand.New(rand.NewSource(37))
	for _, text := range []string{words(random, 65537), words(random, 300000), noise(random, 200000, 255)} {
		for _, s := range []string{Stored(text), Deflate(text)} {
			got, err := io.ReadAll(flate.NewReader(strings.NewReader(s)))
			if string(got) != text || err != nil {
				t.Errorf("%d bytes: %d bytes, %v", len(text), len(got), err)
			}
			if got, n, e := Inflate(s, 0, api.MaxBytes); got != "" || n != 0 || e != api.ErrBig {
				t.Errorf("%d bytes: %d bytes, %d, %d", len(text), len(got), n, e)
			}
		}
		if len(Deflate(text)) > len(Stored(text)) {
			t.Errorf("Deflate of %d bytes is longer than Stored", len(text))
		}
	}
}
