package delta

import (
	"encoding/hex"
	"math"
	"math/rand"
	"slices"
	"strconv"
	"strings"
	"testing"

	"cartulary/api"
)

// sizes holds Sizes against what the document asks.
func sizes(t *testing.T, d string, base, size, used int, e api.Errno) {
	t.Helper()
	b, s, u, got := Sizes(d)
	if b != base || s != size || u != used || got != e {
		t.Errorf("Sizes(%.40x): %d, %d, %d, %d, not %d, %d, %d, %d", d, b, s, u, got, base, size, used, e)
	}
}

// applies holds Apply against what the document asks.
func applies(t *testing.T, base, d string, most int, want string, wantE api.Errno) {
	t.Helper()
	if s, e := Apply(base, d, most); s != want || e != wantE {
		t.Errorf("Apply(%.20q of %d, %.40x, %d): %.40q of %d, %d, not %.40q of %d, %d", base, len(base), d, most, s, len(s), e, want, len(want), wantE)
	}
}

// sizeText: a size by its words, in at least n bytes.
func sizeText(x, n int) string {
	var b []byte
	for len(b) < n || x > 0 || len(b) == 0 {
		b = append(b, byte(x%128)|128)
		x /= 128
	}
	b[len(b)-1] &= 127
	return string(b)
}

// told: a delta of these sizes and instructions.
func told(base, size int, instructions ...string) string {
	return sizeText(base, 0) + sizeText(size, 0) + strings.Join(instructions, "")
}

// sample: n bytes of all values.
func sample(n int) string {
	random := rand.New(rand.NewSource(int64(n)))
	b := make([]byte, n)
	random.Read(b)
	return string(b)
}

// P10.1: the examples of the document.
func TestExamples(t *testing.T) {
	d := "\x05\x07\x90\x05\x02\x21\x21"
	applies(t, "hello", d, 99, "hello!!", api.OK)
	applies(t, "hello", d, 6, "", api.ErrBig)
	applies(t, "hell", d, 99, "", api.ErrForm)
	applies(t, "hello", d[:6], 99, "", api.ErrEnd)
	applies(t, "ab", "\x02\x02\x91\x01\x02", 9, "", api.ErrText)
	applies(t, "", "\x00\x00\x00", 9, "", api.ErrText)
	sizes(t, d, 5, 7, 2, api.OK)
}

// P10.1: all sizes up to some bound, and those about each power of two, in as many bytes as they need and in more.
func TestSizes(t *testing.T) {
	var numbers []int
	for x := range 20000 {
		numbers = append(numbers, x)
	}
	for bit := 14; bit <= 35; bit++ {
		numbers = append(numbers, 1<<bit-2, 1<<bit-1, 1<<bit%(1<<35), (1<<bit+1)%(1<<35))
	}
	for i, x := range numbers {
		other := numbers[(i*7919+13)%len(numbers)]
		for n := range 6 {
			one, two := sizeText(x, n), sizeText(other, 5-n)
			sizes(t, one+two, x, other, len(one)+len(two), api.OK)
			sizes(t, one+two+"\x00\xff behind", x, other, len(one)+len(two), api.OK)
		}
	}
}

// P10.1: sizes of five bytes and of six, and such as end early.
func TestSizesEdges(t *testing.T) {
	five, six := "\x80\x80\x80\x80\x00", "\x80\x80\x80\x80\x80\x00"
	sizes(t, five+five, 0, 0, 10, api.OK)
	sizes(t, "\xff\xff\xff\xff\x7f\xff\xff\xff\xff\x7f", 1<<35-1, 1<<35-1, 10, api.OK)
	sizes(t, "\x80\x80\x80\x80\x01\x81\x80\x80\x80\x40", 1<<28, 1<<34+1, 10, api.OK)
	sizes(t, six+"\x00", 0, 0, 0, api.ErrText)
	sizes(t, "\x00"+six, 0, 0, 0, api.ErrText)
	sizes(t, six+six, 0, 0, 0, api.ErrText)
	sizes(t, "\x00"+strings.Repeat("\x80", 9), 0, 0, 0, api.ErrText)
	sizes(t, strings.Repeat("\xff", 40), 0, 0, 0, api.ErrText)
	// The sixth byte counts when it has been read: till then a byte is wanting.
	sizes(t, six, 0, 0, 0, api.ErrText)
	sizes(t, "\x80\x80\x80\x80\x80\x80", 0, 0, 0, api.ErrText)
	sizes(t, "\x80\x80\x80\x80\x80", 0, 0, 0, api.ErrEnd)
	sizes(t, "\x05\x80\x80\x80\x80\x80", 0, 0, 0, api.ErrEnd)
	sizes(t, "\x05\x80\x80\x80\x80\x80\x80", 0, 0, 0, api.ErrText)
	for n := range 5 {
		sizes(t, strings.Repeat("\xff", n), 0, 0, 0, api.ErrEnd)
		sizes(t, "\x05"+strings.Repeat("\xff", n), 0, 0, 0, api.ErrEnd)
		sizes(t, "\xff\xff\xff\xff\x7f"+strings.Repeat("\x81", n), 0, 0, 0, api.ErrEnd)
	}
	sizes(t, "\x7f", 0, 0, 0, api.ErrEnd)
	sizes(t, five, 0, 0, 0, api.ErrEnd)
}

// P10.1: Sizes' errors are Apply's, ahead of all others.
func TestApplySizes(t *testing.T) {
	for d, e := range map[string]api.Errno{
		"":                                 api.ErrEnd,
		"\x00":                             api.ErrEnd,
		"\x80":                             api.ErrEnd,
		"\x01\x80":                         api.ErrEnd,
		"\x80\x80\x80\x80\x80":             api.ErrEnd,
		"\x80\x80\x80\x80\x80\x00":         api.ErrText,
		"\x01\x80\x80\x80\x80\x80\x00\x00": api.ErrText,
		"\xff\xff\xff\xff\xff\xff":         api.ErrText,
	} {
		for _, most := range []int{-1, 0, 9, math.MaxInt} {
			applies(t, "", d, most, "", e)
			applies(t, "a", d, most, "", e)
		}
	}
	// Sizes with more bytes than they need are sizes.
	applies(t, "ab", sizeText(2, 5)+sizeText(3, 5)+"\x90\x02\x01c", 3, "abc", api.OK)
}

// P10.1: a base of another length, ahead of a second size that is too great.
func TestApplyBase(t *testing.T) {
	for size := range 300 {
		for _, n := range []int{0, 1, size - 1, size, size + 1, size + 128, 2 * size} {
			if n < 0 {
				continue
			}
			want := api.ErrForm
			if n == size {
				want = api.OK
			}
			applies(t, sample(n), told(size, 0), 0, "", want)
			if n != size {
				applies(t, sample(n), told(size, 9), 0, "", api.ErrForm)
				applies(t, sample(n), told(size, 1<<34)+"\x00", -1, "", api.ErrForm)
			}
		}
	}
	applies(t, "", told(1<<32, 0), 0, "", api.ErrForm)
	applies(t, "abc", told(1<<32+3, 0), 0, "", api.ErrForm)
}

// P10.1: a second size of just most and one more, ahead of what the instructions have.
func TestApplyMost(t *testing.T) {
	for _, n := range []int{0, 1, 2, 126, 127} {
		text := sample(n)
		d := told(0, n)
		if n > 0 {
			d = told(0, n, string([]byte{byte(n)}), text)
		}
		for _, most := range []int{n, n + 1, 65536, 1 << 40, math.MaxInt} {
			applies(t, "", d, most, text, api.OK)
		}
		for _, most := range []int{n - 1, -1, -2, math.MinInt} {
			applies(t, "", d, most, "", api.ErrBig)
		}
	}
	applies(t, "", told(0, 10)+"\x00", 9, "", api.ErrBig)
	applies(t, "", told(0, 10)+"\x00", 10, "", api.ErrText)
	applies(t, "", told(0, 10)+"\x7f", 9, "", api.ErrBig)
	applies(t, "", told(0, 10)+"\x7f", 10, "", api.ErrEnd)
	applies(t, "", told(0, 1<<35-1), 1<<35-2, "", api.ErrBig)
	applies(t, "", told(0, 1<<35-1), 1<<35-1, "", api.ErrEnd)
	applies(t, "", told(0, 1<<32), 0, "", api.ErrBig)
	whole := sample(65536)
	applies(t, whole, told(65536, 65536, "\x80"), 65536, whole, api.OK)
	applies(t, whole, told(65536, 65536, "\x80"), 65535, "", api.ErrBig)
	applies(t, whole, told(65536, 65537, "\x80\x01a"), 65536, "", api.ErrBig)
	applies(t, whole, told(65536, 65537, "\x80\x01a"), 65537, whole+"a", api.OK)
}

// P10.1: inserts of all lengths, whole and with bytes wanting.
func TestInserts(t *testing.T) {
	text := sample(127)
	for n := 1; n <= 127; n++ {
		one := string([]byte{byte(n)}) + text[:n]
		applies(t, "ab", told(2, n, one), n, text[:n], api.OK)
		applies(t, "ab", told(2, 2*n, one, one), 2*n, text[:n]+text[:n], api.OK)
		for short := 1; short <= n; short++ {
			applies(t, "ab", told(2, n, one[:len(one)-short]), n, "", api.ErrEnd)
		}
		applies(t, "ab", told(2, n+1, one), 999, "", api.ErrEnd)
		applies(t, "ab", told(2, n-1, one), 999, "", api.ErrText)
		// A byte that is wanting counts ahead of what would be too much.
		applies(t, "ab", told(2, n-1, one[:n]), 999, "", api.ErrEnd)
		applies(t, "ab", told(2, 0, one[:n]), 999, "", api.ErrEnd)
	}
}

// P10.1: the instruction 0: first, in the midst, last, and behind all that should come out.
func TestNought(t *testing.T) {
	applies(t, "ab", told(2, 2, "\x00"), 9, "", api.ErrText)
	applies(t, "ab", told(2, 2, "\x00", "\x90\x02"), 9, "", api.ErrText)
	applies(t, "ab", told(2, 3, "\x90\x02", "\x00", "\x01c"), 9, "", api.ErrText)
	applies(t, "ab", told(2, 2, "\x90\x02", "\x00"), 9, "", api.ErrText)
	applies(t, "ab", told(2, 3, "\x90\x02", "\x00"), 9, "", api.ErrText)
	applies(t, "ab", told(2, 0, "\x00"), 9, "", api.ErrText)
	// What stands ahead of it counts first.
	applies(t, "ab", told(2, 5, "\x05", "\x00"), 9, "", api.ErrEnd)
	applies(t, "ab", told(2, 3, "\x01\x00", "\x01\x00", "\x01\x00"), 9, "\x00\x00\x00", api.OK)
}

// copyText: a copy with the bytes of place and length that which asks for.
func copyText(which int, place [4]byte, length [3]byte) (text string, at, n int) {
	b := []byte{byte(128 | which)}
	for i, c := range append(place[:], length[:]...) {
		if which>>i&1 == 0 {
			continue
		}
		b = append(b, c)
		if i < 4 {
			at += int(c) << (8 * i)
		} else {
			n += int(c) << (8 * (i - 4))
		}
	}
	if n == 0 {
		n = 65536
	}
	return string(b), at, n
}

// greatBase: more than 2^24 bytes, so that each byte of a place and of a length can be other than 0.
func greatBase() string {
	b := make([]byte, 1<<25+1<<18)
	x := uint32(1)
	for i := range b {
		x = x*1664525 + 1013904223
		b[i] = byte(x >> 24)
	}
	return string(b)
}

// P10.1: copies with all, with some and with none of their bytes.
func TestCopyBytes(t *testing.T) {
	base := greatBase()
	for which := range 128 {
		for _, x := range []struct {
			place  [4]byte
			length [3]byte
		}{
			{[4]byte{3, 2, 1, 1}, [3]byte{5, 1, 1}},
			{[4]byte{0xff, 0xfe, 0xfd, 0}, [3]byte{0xff, 0x80, 0}},
			{[4]byte{0, 0, 0, 0}, [3]byte{0, 0, 0}},
			{[4]byte{0, 1, 0, 1}, [3]byte{0, 0, 2}},
			{[4]byte{1, 0, 1, 0}, [3]byte{0, 1, 0}},
		} {
			text, at, n := copyText(which, x.place, x.length)
			applies(t, base, told(len(base), n, text), n, base[at:at+n], api.OK)
			applies(t, base, told(len(base), n+1, text, "\x01c"), n+1, base[at:at+n]+"c", api.OK)
			applies(t, base, told(len(base), n-1, text), n, "", api.ErrText)
			for short := 1; short < len(text); short++ {
				applies(t, base, told(len(base), n, text[:len(text)-short]), n, "", api.ErrEnd)
			}
		}
	}
	text, at, n := copyText(127, [4]byte{1, 2, 3, 0}, [3]byte{0xff, 0xff, 0xff})
	applies(t, base, told(len(base), n, text), n, base[at:at+n], api.OK)
}

// P10.1: copies to the base's last byte and one beyond.
func TestCopyBounds(t *testing.T) {
	for _, size := range []int{0, 1, 2, 3, 255, 256, 257, 65535, 65536, 65537, 70000, 131072, 131073} {
		base := sample(size)
		for _, at := range []int{0, 1, 2, size / 2, size - 65536, size - 2, size - 1, size, size + 1, size + 65536, 1<<32 - 1, 1<<32 - 65536, 1 << 31, 1<<31 - 1} {
			for _, n := range []int{1, 2, 255, 256, 65535, 65536, 65537, size - at - 1, size - at, size - at + 1, size, size + 1, 1<<24 - 1} {
				if at < 0 || n < 1 || n >= 1<<24 {
					continue
				}
				text, _, _ := copyText(127, [4]byte{byte(at), byte(at >> 8), byte(at >> 16), byte(at >> 24)}, [3]byte{byte(n), byte(n >> 8), byte(n >> 16)})
				if at+n <= size {
					applies(t, base, told(size, n, text), n, base[at:at+n], api.OK)
				} else {
					applies(t, base, told(size, n, text), n, "", api.ErrText)
				}
			}
		}
		// The length 0: 65536.
		want := api.ErrText
		if size >= 65536 {
			want = api.OK
		}
		for _, text := range []string{"\x80", "\x90\x00", "\xf0\x00\x00\x00", "\xff\x00\x00\x00\x00\x00\x00\x00"} {
			if want == api.OK {
				applies(t, base, told(size, 65536, text), 65536, base[:65536], want)
			} else {
				applies(t, base, told(size, 65536, text), 65536, "", want)
			}
		}
	}
	applies(t, "", told(0, 1, "\x90\x01"), 9, "", api.ErrText)
	applies(t, "", told(0, 0, "\x90\x01"), 9, "", api.ErrText)
	// A byte that is wanting counts ahead of a copy that isn't within the base.
	applies(t, "ab", told(2, 2, "\x91\x09"), 9, "", api.ErrEnd)
	applies(t, "ab", told(2, 2, "\x91\x09\x02"), 9, "", api.ErrText)
}

// P10.1: less and more than the second size, at the end and ahead of it.
func TestSecondSize(t *testing.T) {
	base := "0123456789"
	applies(t, base, told(10, 0), 0, "", api.OK)
	for size := range 40 {
		d := told(10, size, "\x90\x0a", "\x05abcde", "\x91\x02\x03", "\x01f")
		want := base + "abcde" + "234" + "f"
		switch {
		case size < len(want):
			applies(t, base, d, 40, "", api.ErrText)
		case size == len(want):
			applies(t, base, d, 40, want, api.OK)
		default:
			applies(t, base, d, 40, "", api.ErrEnd)
		}
	}
	// The first instruction that fails is told.
	applies(t, base, told(10, 9, "\x90\x0a", "\x05a"), 40, "", api.ErrText)
	applies(t, base, told(10, 10, "\x90\x0a", "\x05a"), 40, "", api.ErrEnd)
	applies(t, base, told(10, 10, "\x90\x0a", "\x05abcde", "\x05a"), 40, "", api.ErrText)
	applies(t, base, told(10, 11, "\x90\x0a", "\x00", "\x05a"), 40, "", api.ErrText)
	applies(t, base, told(10, 11, "\x90\x0b", "\x05a"), 40, "", api.ErrText)
	applies(t, base, told(10, 30, "\x05a", "\x90\x0b"), 40, "", api.ErrEnd)
	applies(t, base, told(10, 10, "\x90\x0a", "\x90"), 40, "", api.ErrEnd)
}

// byWords: Apply by the document's words, instruction by instruction, on a list of bytes.
func byWords(base, d string, most int) (string, api.Errno) {
	left := []byte(d)
	var both [2]int
	for i := range both {
		bytes := 0
		for shift := 1; ; shift *= 128 {
			if len(left) == 0 {
				return "", api.ErrEnd
			}
			c := int(left[0])
			left = left[1:]
			if bytes++; bytes == 6 {
				return "", api.ErrText
			}
			both[i] += c % 128 * shift
			if c/128 == 0 {
				break
			}
		}
	}
	if both[0] != len(base) {
		return "", api.ErrForm
	}
	if both[1] > most {
		return "", api.ErrBig
	}
	var out []byte
	for len(left) > 0 {
		c := int(left[0])
		left = left[1:]
		switch {
		case c == 0:
			return "", api.ErrText
		case c < 128:
			if len(left) < c {
				return "", api.ErrEnd
			}
			if len(out)+c > both[1] {
				return "", api.ErrText
			}
			out = append(out, left[:c]...)
			left = left[c:]
			continue
		}
		var values [7]int
		for bit := range values {
			if c/(1<<bit)%2 == 0 {
				continue
			}
			if len(left) == 0 {
				return "", api.ErrEnd
			}
			values[bit] = int(left[0])
			left = left[1:]
		}
		at := values[0] + values[1]*256 + values[2]*65536 + values[3]*16777216
		n := values[4] + values[5]*256 + values[6]*65536
		if n == 0 {
			n = 65536
		}
		if at+n > len(base) || len(out)+n > both[1] {
			return "", api.ErrText
		}
		for i := range n {
			out = append(out, base[at+i])
		}
	}
	if len(out) < both[1] {
		return "", api.ErrEnd
	}
	return string(out), api.OK
}

// same holds Apply against the words.
func same(t *testing.T, base, d string, most int) api.Errno {
	t.Helper()
	want, e := byWords(base, d, most)
	applies(t, base, d, most, want, e)
	return e
}

// P10.1: all short deltas of the bytes that count.
func TestAllShort(t *testing.T) {
	counts := map[api.Errno]int{}
	bytes := []byte{0, 1, 2, 3, 0x7f, 0x80, 0x81, 0x90, 0x91, 0xb1, 0xff}
	var grow func(d []byte)
	grow = func(d []byte) {
		for _, base := range []string{"", "a", "ab"} {
			counts[same(t, base, string(d), 2)]++
		}
		if len(d) == 5 {
			return
		}
		for _, c := range bytes {
			grow(append(d[:len(d):len(d)], c))
		}
	}
	grow(nil)
	for _, e := range []api.Errno{api.OK, api.ErrEnd, api.ErrText, api.ErrForm, api.ErrBig} {
		if counts[e] < 100 {
			t.Errorf("only %d times %d", counts[e], e)
		}
	}
}

// someDelta: a delta of some base that is in form, or nearly so.
func someDelta(random *rand.Rand, base string) string {
	out := 0
	var d []byte
	for range random.Intn(6) {
		if len(base) == 0 || random.Intn(2) == 0 {
			n := 1 + random.Intn(9)
			d = append(append(d, byte(n)), sample(n)...)
			out += n
			continue
		}
		at := random.Intn(len(base))
		n := 1 + random.Intn(len(base)-at)
		which := 0
		values := [7]byte{byte(at), byte(at >> 8), byte(at >> 16), byte(at >> 24), byte(n), byte(n >> 8), byte(n >> 16)}
		for i, c := range values {
			if c > 0 || random.Intn(3) == 0 {
				which |= 1 << i
			}
		}
		text, _, _ := copyText(which, [4]byte(values[:4]), [3]byte(values[4:]))
		d = append(d, text...)
		out += n
	}
	first, second := len(base), out
	if random.Intn(12) == 0 {
		first += random.Intn(3) - 1
	}
	if random.Intn(6) == 0 {
		second += random.Intn(3) - 1
	}
	d = append([]byte(sizeText(max(first, 0), random.Intn(4))+sizeText(max(second, 0), random.Intn(4))), d...)
	for range random.Intn(3) * random.Intn(2) {
		at := random.Intn(len(d))
		switch random.Intn(4) {
		case 0:
			d[at] = byte(random.Intn(256))
		case 1:
			d = slices.Delete(d, at, at+1)
		case 2:
			d = slices.Insert(d, at, byte(random.Intn(256)))
		case 3:
			d = d[:at+1]
		}
	}
	return string(d)
}

// P10.1: many deltas, right and wrong ones, against the words.
func TestAgainstWords(t *testing.T) {
	random := rand.New(rand.NewSource(10))
	counts := map[api.Errno]int{}
	for range 40000 {
		base := sample([]int{0, 1, 5, 100, 300, 70000}[random.Intn(6)] * random.Intn(8) / 7)
		most := 1 << 20
		if random.Intn(4) == 0 {
			most = random.Intn(400)
		}
		counts[same(t, base, someDelta(random, base), most)]++
	}
	for _, e := range []api.Errno{api.OK, api.ErrEnd, api.ErrText, api.ErrForm, api.ErrBig} {
		if counts[e] < 100 {
			t.Errorf("only %d times %d", counts[e], e)
		}
	}
}

// lines: some lines of a text.
func lines(from, to int) string {
	var b strings.Builder
	for i := from; i < to; i++ {
		b.WriteString("line " + strconv.Itoa(i) + " of the text\n")
	}
	return b.String()
}

// P10.1: a delta of git's own making.
func TestByGit(t *testing.T) {
	d, err := hex.DecodeString("e240e63bb0c6070961206e6577206f6e65b3df0b4f0c0a7878780a6c696e65203293011014b3a0017b01b333182f08")
	if err != nil {
		t.Fatal(err)
	}
	base := lines(0, 400)
	want := lines(0, 100) + "a new one\n" + lines(150, 300) + "xxx\n" + lines(20, 40) + lines(300, 400)
	sizes(t, string(d), 8290, 7654, 4, api.OK)
	applies(t, base, string(d), api.MaxBytes, want, api.OK)
	for n := range d {
		if _, e := Apply(base, string(d[:n]), api.MaxBytes); e != api.ErrEnd {
			t.Errorf("%d bytes of it: %d", n, e)
		}
	}
}

// P10.1: a panic that isn't the reader's own isn't taken for an error.
func TestOtherPanic(t *testing.T) {
	defer func() {
		if recover() != "another" {
			t.Error("another panic is lost")
		}
	}()
	attempt(func() { panic("another") })
}
