package zlib

import (
	"bytes"
	library "compress/zlib"
	"hash/adler32"
	"io"
	"math"
	"math/rand"
	"strings"
	"testing"

	"cartulary/api"
	"cartulary/inflate"
)

// packed: a frame as the library writes it.
func packed(t *testing.T, text string, level int) string {
	t.Helper()
	var b bytes.Buffer
	w, err := library.NewWriterLevel(&b, level)
	if err != nil {
		t.Fatal(err)
	}
	w.Write([]byte(text))
	w.Close()
	return b.String()
}

// someTexts: texts of many shapes, of 0, 65535 and 65536 bytes too.
func someTexts() []string {
	random := rand.New(rand.NewSource(3))
	texts := []string{"", "a", "hello hello hello", "\x00", "\xff\xff"}
	for _, n := range []int{300, 5552, 5553, 65535, 65536} {
		b := make([]byte, n)
		random.Read(b)
		texts = append(texts, string(b), strings.Repeat("\xff", n), strings.Repeat("tree 100644 a\n", n)[:n])
	}
	return texts
}

// sumBytesOf: the sum that stands behind a stream.
func sumBytesOf(text string) string {
	x := adler32.Checksum([]byte(text))
	return string([]byte{byte(x >> 24), byte(x >> 16), byte(x >> 8), byte(x)})
}

// reads holds Read against what the document asks.
func reads(t *testing.T, what, s string, at, most int, text string, n int, e api.Errno) {
	t.Helper()
	if got, gotN, gotE := Read(s, at, most); got != text || gotN != n || gotE != e {
		t.Errorf("%s: Read(%.40x, %d, %d): %d bytes, %d, %d, not %d bytes, %d, %d", what, s, at, most, len(got), gotN, gotE, len(text), n, e)
	}
}

// P6.1: all heads.
func TestHead(t *testing.T) {
	heads := 0
	for cmf := range 256 {
		for flg := range 256 {
			want := cmf%16 == 8 && cmf/16 <= 7 && (256*cmf+flg)%31 == 0 && flg/32%2 == 0
			if Head(byte(cmf), byte(flg)) != want {
				t.Errorf("Head(%x, %x): %v", cmf, flg, !want)
			}
			s := string([]byte{byte(cmf), byte(flg)}) + inflate.Stored("a") + sumBytesOf("a")
			if want {
				heads++
				reads(t, "a head", s, 0, 1, "a", len(s), api.OK)
			} else {
				reads(t, "no head", s, 0, 1, "", 0, api.ErrText)
			}
		}
	}
	if heads != 32 {
		t.Errorf("%d heads", heads)
	}
	for _, flg := range []byte{0x01, 0x5e, 0x9c, 0xda} {
		if !Head(0x78, flg) {
			t.Errorf("Head(78, %x): false", flg)
		}
	}
}

// P6.1: heads that are none for one reason alone: the sum, the method, the window, a preset text that is asked for.
func TestNoHead(t *testing.T) {
	behind := inflate.Stored("a") + sumBytesOf("a")
	for _, head := range []string{"\x78\x02", "\x77\x09", "\x79\x18", "\x88\x1c", "\xf8\x00", "\x78\x20", "\x78\xbb", "\x78\xf9"} {
		if Head(head[0], head[1]) {
			t.Errorf("Head(%x): true", head)
		}
		reads(t, "no head", head+behind, 0, 9, "", 0, api.ErrText)
	}
}

// P6.1: the examples of the document.
func TestExamples(t *testing.T) {
	s := Plain("a")
	if s != "\x78\x01\x01\x01\x00\xfe\xff\x61\x00\x62\x00\x62" {
		t.Errorf("Plain(a): %x", s)
	}
	reads(t, "Plain", s, 0, 9, "a", 12, api.OK)
	reads(t, "its last byte turned", s[:11]+"\x9d", 0, 9, "", 0, api.ErrSum)
	reads(t, "without its last byte", s[:11], 0, 9, "", 0, api.ErrEnd)
	reads(t, "78 02", "\x78\x02"+s[2:], 0, 9, "", 0, api.ErrText)
}

// P6.1: arguments outside their ranges come ahead of all else.
func TestArguments(t *testing.T) {
	for _, s := range []string{Plain("a"), "\x00\x00\x07", "\x78", ""} {
		for _, x := range [][2]int{{-1, 9}, {len(s) + 1, 9}, {0, -1}, {0, api.MaxBytes + 1}, {math.MinInt, 9}, {math.MaxInt, 9}, {math.MaxInt - 1, 9}, {0, math.MinInt}, {0, math.MaxInt}, {-1, -1}} {
			reads(t, "arguments", s, x[0], x[1], "", 0, api.ErrArg)
		}
		reads(t, "at the end", s, len(s), api.MaxBytes, "", 0, api.ErrEnd)
		if len(s) > 0 {
			reads(t, "one byte", s, len(s)-1, 0, "", 0, api.ErrEnd)
		}
	}
}

// P6.1: the first error counts.
func TestOrder(t *testing.T) {
	reads(t, "one byte of no head", "\x00", 0, 0, "", 0, api.ErrEnd)
	reads(t, "no head, no stream", "\x78\x02", 0, 0, "", 0, api.ErrText)
	reads(t, "no stream", "\x78\x01", 0, 0, "", 0, api.ErrEnd)
	reads(t, "a block of kind 3", "\x78\x01\x07", 0, 9, "", 0, api.ErrText)
	reads(t, "too many bytes, no sum", "\x78\x01"+inflate.Stored("ab"), 0, 1, "", 0, api.ErrBig)
	reads(t, "a stream cut short", "\x78\x01\x01\x02\x00\xfd\xffa", 0, 9, "", 0, api.ErrEnd)
	reads(t, "a stream cut short, too many bytes", "\x78\x01\x01\x02\x00\xfd\xffa", 0, 0, "", 0, api.ErrBig)
	whole := Plain("ab")
	for cut := 1; cut <= 4; cut++ {
		reads(t, "a sum cut short", whole[:len(whole)-cut], 0, 9, "", 0, api.ErrEnd)
		reads(t, "another sum cut short", whole[:len(whole)-4]+"\xee\xee\xee\xee"[:4-cut], 0, 9, "", 0, api.ErrEnd)
	}
}

// P6.1: of any bytes Read answers what the frame's parts say.
func TestAgainstParts(t *testing.T) {
	slow := func(s string, most int) (string, int, api.Errno) {
		if len(s) < 2 {
			return "", 0, api.ErrEnd
		}
		if !Head(s[0], s[1]) {
			return "", 0, api.ErrText
		}
		text, n, e := inflate.Inflate(s[2:], 0, most)
		switch {
		case e != api.OK:
			return "", 0, e
		case len(s) < 2+n+4:
			return "", 0, api.ErrEnd
		case s[2+n:2+n+4] != sumBytesOf(text):
			return "", 0, api.ErrSum
		}
		return text, n + 6, api.OK
	}
	random := rand.New(rand.NewSource(41))
	seen := map[api.Errno]int{}
	for range 5000 {
		text := strings.Repeat("blob 12", 20)[:random.Intn(140)]
		s := []byte(packed(t, text, random.Intn(10)))
		if random.Intn(3) > 0 {
			s[random.Intn(len(s))] ^= 1 << random.Intn(8)
		}
		s = append(s[:len(s)-random.Intn(2)*random.Intn(len(s))], "tail"[:random.Intn(5)]...)
		most := random.Intn(len(text)*3 + 1)
		ahead := "ahead"[:random.Intn(6)]
		want, n, e := slow(string(s), most)
		reads(t, "parts", ahead+string(s), len(ahead), most, want, n, e)
		seen[e]++
	}
	for _, e := range []api.Errno{api.OK, api.ErrBig, api.ErrText, api.ErrEnd, api.ErrSum} {
		if seen[e] < 50 {
			t.Errorf("error %d came %d times alone", e, seen[e])
		}
	}
}

// P6.1: frames that were written by others; a sum with any bit turned; a frame cut at every place; bytes around.
func TestOthersFrames(t *testing.T) {
	for _, text := range someTexts() {
		for _, level := range []int{library.HuffmanOnly, 0, 1, 6, 9} {
			s := packed(t, text, level)
			reads(t, "a frame", s, 0, len(text), text, len(s), api.OK)
			reads(t, "bytes around", "\x78\x01"+s+"\x00\x01\x02\x03", 2, api.MaxBytes, text, len(s), api.OK)
			if text != "" {
				reads(t, "one too few", s, 0, len(text)-1, "", 0, api.ErrBig)
			}
			for k := range 32 {
				spoilt := []byte(s)
				spoilt[len(s)-4+k/8] ^= 1 << (k % 8)
				reads(t, "a sum that is spoilt", string(spoilt), 0, len(text), "", 0, api.ErrSum)
				if len(s) > 9000 {
					break
				}
			}
			for n := range min(len(s), 200) {
				reads(t, "cut", s[:n], 0, len(text), "", 0, api.ErrEnd)
				reads(t, "cut near its end", s[:len(s)-1-n%8], 0, len(text), "", 0, api.ErrEnd)
				if len(s) > 9000 && n > 12 {
					break
				}
			}
		}
	}
}

// P6.2: Write and Plain are read back, by others too.
func TestReadBack(t *testing.T) {
	for _, text := range someTexts() {
		plain, written := Plain(text), Write(text)
		if plain != "\x78\x01"+inflate.Stored(text)+sumBytesOf(text) {
			t.Errorf("Plain of %d bytes is otherwise", len(text))
		}
		if written != "\x78\x01"+inflate.Deflate(text)+sumBytesOf(text) {
			t.Errorf("Write of %d bytes is otherwise", len(text))
		}
		for _, s := range []string{plain, written} {
			reads(t, "back", s, 0, len(text), text, len(s), api.OK)
			reads(t, "back, most of all", s+"behind", 0, api.MaxBytes, text, len(s), api.OK)
			r, err := library.NewReader(strings.NewReader(s))
			if err != nil {
				t.Fatal(err)
			}
			got, err := io.ReadAll(r)
			if string(got) != text || err != nil {
				t.Errorf("%d bytes, read by others: %d bytes, %v", len(text), len(got), err)
			}
		}
	}
}
