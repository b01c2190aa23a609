package delta

import (
	"math/rand"
	"slices"
	"strings"
	"testing"

	"cartulary/api"
)

// makes holds Make against what the document asks: read back, by Apply and by the words, and no longer than it says.
func makes(t *testing.T, base, text string) string {
	t.Helper()
	d := Make(base, text)
	if most := 10 + len(text) + (len(text)+126)/127; len(d) > most {
		t.Errorf("Make(%.20q of %d, %.20q of %d): %d bytes, not %d at most", base, len(base), text, len(text), len(d), most)
	}
	applies(t, base, d, len(text), text, api.OK)
	if s, e := byWords(base, d, len(text)); s != text || e != api.OK {
		t.Errorf("Make(%.20q of %d, %.20q of %d): %d by the words", base, len(base), text, len(text), e)
	}
	first, second, _, e := Sizes(d)
	if first != len(base) || second != len(text) || e != api.OK {
		t.Errorf("Make(%.20q of %d, %.20q of %d): the sizes %d, %d, %d", base, len(base), text, len(text), first, second, e)
	}
	if Make(base, text) != d {
		t.Errorf("Make(%.20q of %d, %.20q of %d): twice, and not the same", base, len(base), text, len(text))
	}
	return d
}

// P10.2: empty texts, the base itself, texts of MaxBytes bytes.
func TestMakeEdges(t *testing.T) {
	full := sample(api.MaxBytes)
	alike := strings.Repeat("a", api.MaxBytes)
	texts := []string{"", "a", "b", "\x00", full, alike, full[1:], full[:api.MaxBytes-1], full[30000:] + full[:30000], alike[1:] + "b", "b" + alike[1:],
		strings.Repeat("0123456789", 7000)[:api.MaxBytes], strings.Repeat("\x00", api.MaxBytes), full[:16], full[:15], full[:17], full[16:32], full[8:24], full[api.MaxBytes-16:]}
	for _, base := range texts {
		for _, text := range texts {
			makes(t, base, text)
		}
	}
}

// P10.2: texts of which nothing stands in the base, of each length about the inserts' bounds.
func TestMakeInserts(t *testing.T) {
	other := strings.Repeat("z", 5000)
	for n := range 1000 {
		text := sample(n)
		if d := makes(t, other, text); len(d) != len(told(5000, n))+n+(n+126)/127 {
			t.Errorf("%d bytes: a delta of %d", n, len(d))
		}
		makes(t, "", text)
	}
}

// P10.2: pieces of the base of each length and from many places: where they are copied, no delta is longer than one of inserts alone.
func TestMakePieces(t *testing.T) {
	base := sample(3000)
	for n := range 80 {
		for at := 0; at < 100; at += 7 {
			makes(t, base, base[at:at+n])
			makes(t, base, "x"+base[at:at+n]+"y")
			makes(t, base, strings.Repeat(base[at:at+n]+"-", 40))
			makes(t, base[:at+n], base[at:at+n])
		}
	}
}

// P10.2: the base's blocks in any order, with little or nothing between them: the most copies there can be.
func TestMakeManyCopies(t *testing.T) {
	random := rand.New(rand.NewSource(102))
	base := sample(api.MaxBytes)
	for _, between := range []string{"", "-", "--", strings.Repeat("-", 127), strings.Repeat("-", 126), strings.Repeat("-", 128)} {
		for _, n := range []int{16, 17, 20, 31, 32} {
			var text strings.Builder
			for text.Len()+n+len(between) <= api.MaxBytes {
				at := random.Intn((len(base)-n)/16) * 16
				text.WriteString(base[at:at+n] + between)
			}
			makes(t, base, text.String())
		}
	}
}

// P10.2: short texts of few letters, whatever they have in common.
func TestMakeFewLetters(t *testing.T) {
	random := rand.New(rand.NewSource(1020))
	some := func() string {
		b := make([]byte, random.Intn(200))
		for i := range b {
			b[i] = "aaab"[random.Intn(4)]
		}
		return string(b)
	}
	for range 5000 {
		makes(t, some(), some())
	}
}

// P10.2: a text with some changes.
func TestMakeChanged(t *testing.T) {
	random := rand.New(rand.NewSource(210))
	for range 400 {
		base := lines(0, random.Intn(2000))
		text := []byte(base)
		for range random.Intn(20) {
			at := random.Intn(len(text) + 1)
			end := at + random.Intn(min(300, len(text)-at+1))
			switch random.Intn(4) {
			case 0:
				text = slices.Delete(text, at, end)
			case 1:
				text = slices.Insert(text, at, []byte(sample(random.Intn(200)))...)
			case 2:
				text = append(text[end:len(text):len(text)], text[:end]...)
			case 3:
				text = append(text, text[at:end]...)
			}
		}
		makes(t, base[:min(len(base), api.MaxBytes)], string(text[:min(len(text), api.MaxBytes)]))
	}
}

// P10.2: beyond MaxBytes nothing is promised, but that the call ends: it is read back all the same.
func TestMakeBeyond(t *testing.T) {
	long := sample(300000)
	for _, text := range []string{"", long, long[100000:] + "x" + long[:100001], strings.Repeat("z", 200000), long[200000:]} {
		makes(t, long, text)
		makes(t, text, long)
		makes(t, "abc", text)
	}
	for n := 65530; n < 65550; n++ {
		makes(t, long[:n], long[:n])
		makes(t, long, long[:n])
	}
}

// The document leaves the delta free; a text that is much like its base is to be told in few bytes.
func TestMakeIsShort(t *testing.T) {
	base := sample(60000)
	for _, x := range []struct {
		text string
		most int
	}{
		{base, 6 + 5},
		{base[1:], 6 + 6},
		{base[:59999], 6 + 5},
		{base[:30000] + "some words" + base[30000:], 6 + 5 + 11 + 5},
		{base[:30007] + "some words" + base[30007:], 6 + 5 + 11 + 5},
		{base[40000:] + base[:40000], 6 + 5 + 5},
		{base[1000:1031], 6 + 4},
		{"x" + base[1001:1032] + "y", 6 + 4 + 4},
		{strings.Repeat(base[:50000], 2)[:65536], 6 + 5 + 5},
	} {
		if d := makes(t, base, x.text); len(d) > x.most {
			t.Errorf("%d bytes: %x", len(d), d)
		}
	}
	whole := sample(api.MaxBytes)
	if d := makes(t, whole, whole); d != told(65536, 65536, "\x80") {
		t.Errorf("the whole base: %x", d)
	}
	twice := whole + whole
	if d := makes(t, twice, twice); d != told(131072, 131072, "\x80", "\x84\x01") {
		t.Errorf("the whole base, of two copies: %x", d)
	}
}
