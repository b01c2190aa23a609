package pack

import (
	"bytes"
	stdzlib "compress/zlib"
	"crypto/sha1"
	"encoding/binary"
	"encoding/hex"
	"hash/crc32"
	"io"
	"math/rand"
	"slices"
	"strconv"
	"strings"
	"testing"

	"cartulary/api"
	"cartulary/delta"
	"cartulary/zlib"
)

var kindNames = map[int]string{1: "commit", 2: "tree", 3: "blob", 4: "tag"}

// nameOf: an object's name, by the library's SHA-1.
func nameOf(o api.Object) string {
	sum := sha1.Sum([]byte(kindNames[o.Kind] + " " + strconv.Itoa(len(o.Data)) + "\x00" + o.Data))
	return hex.EncodeToString(sum[:])
}

// unhex: the bytes of digits.
func unhex(t *testing.T, digits string) string {
	t.Helper()
	b, err := hex.DecodeString(digits)
	if err != nil {
		t.Fatal(err)
	}
	return string(b)
}

// summed: a text with its SHA-1 behind it, by the library.
func summed(text string) string {
	sum := sha1.Sum([]byte(text))
	return text + string(sum[:])
}

// packOf: a pack that says that it has n entries, by the words of the document.
func packOf(n uint32, entries ...string) string {
	return summed("PACK\x00\x00\x00\x02" + string(binary.BigEndian.AppendUint32(nil, n)) + strings.Join(entries, ""))
}

// openingOf: kind and size by their words, in at least so many bytes.
func openingOf(kind, size, least int) string {
	b := []byte{byte(kind<<4 + size%16)}
	for rest := size / 16; rest > 0 || len(b) < least; rest /= 128 {
		b[len(b)-1] |= 128
		b = append(b, byte(rest%128))
	}
	return string(b)
}

// backOf: the bytes that say how far back: the shortest ones come first, and so the number that
// is left among those of one length is told in base 128.
func backOf(n int) string {
	length, room := 1, 128
	for n >= room {
		n -= room
		length++
		room *= 128
	}
	b := make([]byte, length)
	for i := length - 1; i >= 0; i-- {
		b[i] = byte(n%128) | 128
		n /= 128
	}
	b[length-1] &= 127
	return string(b)
}

// framed: a frame of the library's making.
func framed(text string, level int) string {
	var out bytes.Buffer
	w, err := stdzlib.NewWriterLevel(&out, level)
	if err != nil {
		panic(err)
	}
	io.WriteString(w, text)
	w.Close()
	return out.String()
}

// entry: an object's entry, with a frame of the library's making.
func entry(kind int, data string) string {
	return openingOf(kind, len(data), 1) + framed(data, 6)
}

// sample: n bytes of all values.
func sample(n int) string {
	random := rand.New(rand.NewSource(int64(n)))
	b := make([]byte, n)
	random.Read(b)
	return string(b)
}

// counts holds Count against what the document asks.
func counts(t *testing.T, s string, want int, wantE api.Errno) {
	t.Helper()
	if n, e := Count(s); n != want || e != wantE {
		t.Errorf("Count(%.40x of %d): %d, %d, not %d, %d", s, len(s), n, e, want, wantE)
	}
}

// alls holds All against what the document asks.
func alls(t *testing.T, s string, wantE api.Errno, want ...Entry) {
	t.Helper()
	if l, e := All(s); !slices.Equal(l, want) || e != wantE {
		t.Errorf("All(%.60x of %d): %.200v, %d, not %.200v, %d", s, len(s), l, e, want, wantE)
	}
}

// P11.1, P11.2: the examples of the document.
func TestExamples(t *testing.T) {
	for _, items := range [][]Item{nil, {}} {
		s, e := Build(items)
		if e != api.OK || len(s) != 32 || s[:12] != "PACK\x00\x00\x00\x02\x00\x00\x00\x00" {
			t.Errorf("Build of none: %x, %d", s, e)
		}
		counts(t, s, 0, api.OK)
		alls(t, s, api.OK)
		reads(t, s, 12, Entry{}, api.ErrEnd)
	}
	one, two := "\x30"+framed("", 6), "\x33"+framed("abc", 6)
	s := packOf(2, one, two)
	next := 12 + len(one)
	alls(t, s, api.OK,
		Entry{At: 12, Next: next, Kind: api.Blob, Crc: crc32.ChecksumIEEE([]byte(one))},
		Entry{At: next, Next: next + len(two), Kind: api.Blob, Data: "abc", Crc: crc32.ChecksumIEEE([]byte(two))})
	alls(t, packOf(1, "\x50"+framed("", 6)), api.ErrKind)
	far := packOf(0, strings.Repeat(" ", 128), "\x60\x80\x00"+framed("", 6))
	if x, e := Read(far, 12+128); x.Base != 12 || e != api.OK {
		t.Errorf("80 00: %v, %d", x, e)
	}
}

// P11.1: a pack has at least 32 bytes, whatever they are.
func TestCountShort(t *testing.T) {
	whole := packOf(0)
	if len(whole) != 32 || Least != 32 || MaxEntries != 1000 || Offset != 6 || Named != 7 {
		t.Fatalf("%d bytes, %d, %d, %d, %d", len(whole), Least, MaxEntries, Offset, Named)
	}
	for n := range 32 {
		counts(t, whole[:n], 0, api.ErrEnd)
		counts(t, whole[32-n:], 0, api.ErrEnd)
		counts(t, strings.Repeat("\xff", n), 0, api.ErrEnd)
		alls(t, whole[:n], api.ErrEnd)
	}
	counts(t, whole, 0, api.OK)
	counts(t, strings.Repeat("\x00", 32), 0, api.ErrText)
}

// P11.1: other beginnings and other numbers than PACK and 2, with a right sum.
func TestCountBeginning(t *testing.T) {
	good := packOf(1, entry(api.Blob, "abc"))
	body := good[:len(good)-20]
	counts(t, good, 1, api.OK)
	for place := range 8 {
		for c := range 256 {
			b := []byte(body)
			if b[place] == byte(c) {
				continue
			}
			b[place] = byte(c)
			counts(t, summed(string(b)), 0, api.ErrText)
			alls(t, summed(string(b)), api.ErrText)
		}
	}
	for _, start := range []string{"pack", "PACK\x00\x00\x00\x03", "PACK\x02\x00\x00\x00", "KCAP", " PACK", "\xfftOc\x00\x00\x00\x02", "DIRC\x00\x00\x00\x02"} {
		counts(t, summed(start+body[len(start):]), 0, api.ErrText)
	}
}

// P11.1: the count is a number of four bytes, the highest first, of at most 1000.
func TestCountNumber(t *testing.T) {
	for n := range uint32(1001) {
		counts(t, packOf(n), int(n), api.OK)
		counts(t, packOf(n, "any bytes"), int(n), api.OK)
	}
	for _, n := range []uint32{1001, 1002, 1023, 1024, 2000, 1 << 16, 1<<16 + 1, 1 << 24, 1<<31 - 1, 1 << 31, 1<<31 + 1, 1<<32 - 1} {
		counts(t, packOf(n), 0, api.ErrBig)
		alls(t, packOf(n), api.ErrBig)
	}
}

// P11.1: a sum that is spoiled in any bit, in itself or in what it is of.
func TestCountSum(t *testing.T) {
	good := packOf(2, entry(api.Blob, "abc"), entry(api.Tree, ""))
	for i := range 8 * len(good) {
		b := []byte(good)
		b[i/8] ^= 1 << (i % 8)
		want := api.ErrSum
		if i/8 < 8 {
			want = api.ErrText
		} else if i/8 < 12 && binary.BigEndian.Uint32(b[8:]) > 1000 {
			want = api.ErrBig
		}
		counts(t, string(b), 0, want)
		alls(t, string(b), want)
	}
	for n := 32; n < len(good); n++ {
		counts(t, good[:n], 0, api.ErrSum)
	}
	counts(t, good+"\x00", 0, api.ErrSum)
	counts(t, summed(good), 2, api.OK)
}

// P11.1: of two errors of Count, the one that is named first.
func TestCountOrder(t *testing.T) {
	big, wrong := packOf(1001, "some bytes"), summed("PICK\x00\x00\x00\x02\x00\x00\xff\xff")
	counts(t, wrong[:31], 0, api.ErrEnd)
	counts(t, wrong, 0, api.ErrText)
	counts(t, wrong[:len(wrong)-1]+"z", 0, api.ErrText)
	counts(t, big[:31], 0, api.ErrEnd)
	counts(t, big[:len(big)-1]+"z", 0, api.ErrBig)
	counts(t, big, 0, api.ErrBig)
}

// packs of git's own making: with places, and with names.
const (
	gitObjects = "5041434b00000002000000079607789c2b294a4d5548b1344bb4b44c334a314d4cb4304c49323633374c354c323548364eb6303535b0484e3334353636e64a2c2dc9c82f527054b0497448b2533034378002056d10c9959c9f9b9b5952928a4709577e5e2a170088ec1e8f" +
		"c806789c25ca310a80300c40d1bda7c8eed2b4da2a88e8519a341505512408de5e8a7f79cb3f69175668ad232a9e850ae1d0071b9d47f49de4815d268cbdf3257032fa5e027c1ec7a646d30a0f5656b9618131cd340146fb87d0544c1dcc075b361d1f" +
		"a407789c333430303331514864c89db69b7789a76af0cb983feb4ffcbcdef35ef6cf6743886412c3fee8404ee3d4a0493eafb7db742f897bc1a45b5300954c6608debee9f5b63f1182425253cf33052f117bc2f55f1c2a99caf06ceea3d99b2e5e73f6eed65c571e75e3d0939ee08900bd0a311e" +
		"be31789c6dd2410ac2401044d17d4ed147b0ab34ea710447146206c2801e5f5c86fedbcf2cead1b3bcd61687e88f18cf16a37dc7b4fc53d6a49a5cd3b1a6534df32e6dfd13e7fae852d31596d27a989fb03f0190204820e40c0d14098c0487c0213a0338040e8143e01038040e8143e030380c0ed37f0287c16170181c0687c1e1bde3b6dee3ddb736fd00379702e8"
	gitByPlace = gitObjects + "6f800f789c9bc7368d6d422b4b4e665eeac68e5e26002d5505ca678029789c9bc736956d8328330009bb020830789c030000000001e945cef6103556a6b4512162eade90388d902809"
	gitByName  = gitObjects + "7f53b7b2ebb6fc5811121a95cf0253a416e40aff17789c9bc7368d6d422b4b4e665eeac68e5e26002d5505ca7753b7b2ebb6fc5811121a95cf0253a416e40aff17789c9bc736956d8328330009bb020830789c030000000001892bfdcd7209a3e53718995e2ec1c347bda4733e"
)

// what git tells of the first one.
var byGit = []struct {
	name            string
	kind, size      int
	at, inPack, own int
	crc             uint32
}{
	{"402bbf3cebfb198607231135ed9c2db17823f6ca", 1, 118, 12, 95, 1, 0x83d26ece},
	{"5be7dda6288f201a4531727e0c1051d8cc62df72", 4, 104, 107, 99, 4, 0x87f25d77},
	{"d96a99f2d5aa81db3671e1b50c3c85508cf15333", 2, 116, 206, 116, 2, 0xc23fd37f},
	{"53b7b2ebb6fc5811121a95cf0253a416e40aff17", 3, 798, 322, 143, 3, 0xde883296},
	{"6d96bb0da4492553e95cfcafc8f9d78cef1dfcf3", 6, 15, 465, 26, 3, 0x44a5d730},
	{"bf5b5109336552924cebb73c8ba45ee8022d7c70", 6, 7, 491, 18, 3, 0xa1d87a40},
	{"e69de29bb2d1d6434b8b29ae775ad8c2e48c5391", 3, 0, 509, 9, 3, 0x6e760029},
}

// P11.1: packs of git's own making.
func TestByGit(t *testing.T) {
	s := unhex(t, gitByPlace)
	counts(t, s, 7, api.OK)
	l, e := All(s)
	if e != api.OK || len(l) != len(byGit) {
		t.Fatalf("All: %v, %d", l, e)
	}
	for i, g := range byGit {
		x := l[i]
		base := 0
		data := x.Data
		if g.kind == Offset {
			base = 322
			data, e = delta.Apply(l[3].Data, x.Data, api.MaxBytes)
		}
		if nameOf(api.Object{Kind: g.own, Data: data}) != g.name || e != api.OK {
			t.Errorf("%s: %q, %d", g.name, x.Data, e)
		}
		want := Entry{At: g.at, Next: g.at + g.inPack, Kind: g.kind, Data: x.Data, Base: base, Crc: g.crc}
		if x != want || len(x.Data) != g.size {
			t.Errorf("%s: %v, not %v", g.name, x, want)
		}
		reads(t, s, g.at, want, api.OK)
	}
}

// P11.1: the same of git's, with names in the place of places.
func TestByGitNamed(t *testing.T) {
	one, e1 := All(unhex(t, gitByPlace))
	two, e2 := All(unhex(t, gitByName))
	if e1 != api.OK || e2 != api.OK || len(one) != 7 || len(two) != 7 {
		t.Fatalf("%d, %d", e1, e2)
	}
	for i, x := range two {
		if i < 4 && x != one[i] || x.Data != one[i].Data || x.Base != 0 {
			t.Errorf("entry %d: %v", i, x)
		}
		if named := i == 4 || i == 5; named != (x.Kind == Named) || named != (x.Id == "53b7b2ebb6fc5811121a95cf0253a416e40aff17") || named != (x.Id != "") {
			t.Errorf("entry %d: %v", i, x)
		}
	}
	if two[5].Next != 545 || two[6].At != 545 || two[6].Next != 554 {
		t.Errorf("the last ones: %v", two[5:])
	}
}

// P11.1: the entries have to end just ahead of the sum.
func TestAllEnd(t *testing.T) {
	one, two := entry(api.Blob, "abc"), entry(api.Tag, strings.Repeat("tag", 99))
	l, e := All(packOf(2, one, two))
	if e != api.OK || len(l) != 2 {
		t.Fatalf("All: %v, %d", l, e)
	}
	for _, behind := range []string{"\x00", "z", one, one + two, sample(99)} {
		alls(t, packOf(2, one, two, behind), api.ErrText)
		alls(t, packOf(0, behind), api.ErrText)
	}
	alls(t, packOf(1, one, two), api.ErrText)
	alls(t, packOf(0, one), api.ErrText)
	alls(t, packOf(3, one, two), api.ErrEnd)
	alls(t, packOf(1000, one, two), api.ErrEnd)
	alls(t, packOf(1), api.ErrEnd)
	// Another sum behind a whole pack: the first one stands between entries and sum.
	alls(t, summed(packOf(2, one, two)), api.ErrText)
}

// P11.1: the first error of Read, ahead of those behind it and of bytes that are left.
func TestAllFirstError(t *testing.T) {
	good := entry(api.Blob, "abc")
	wrong := map[string]api.Errno{
		"\x50":                                   api.ErrKind,
		"\x33" + framed("ab", 6):                 api.ErrText,
		"\x33" + framed("abcd", 6):               api.ErrText,
		"\xb9\xfb\x01":                           api.ErrText,
		openingOf(3, 65001, 1):                   api.ErrBig,
		"\x60\x00":                               api.ErrText,
		"\x33" + zlib.Plain("abc")[:10] + "none": api.ErrSum,
	}
	for bad, want := range wrong {
		for other := range wrong {
			alls(t, packOf(2, bad+strings.Repeat("\x00", 40), other), want)
			alls(t, packOf(3, good, bad+strings.Repeat("\x00", 40), other), want)
			alls(t, packOf(2, good, bad+strings.Repeat("\x00", 40), other), want)
		}
	}
	alls(t, packOf(2, good, good[:len(good)-1]), api.ErrEnd)
	alls(t, packOf(1, good[:len(good)-1]), api.ErrEnd)
}

// P11.1: as many entries as may be.
func TestAllMost(t *testing.T) {
	var entries []string
	for i := range 1000 {
		entries = append(entries, entry(1+i%4, strconv.Itoa(i)))
	}
	l, e := All(packOf(1000, entries...))
	if e != api.OK || len(l) != 1000 {
		t.Fatalf("All: %d entries, %d", len(l), e)
	}
	at := 12
	for i, x := range l {
		if x.At != at || x.Kind != 1+i%4 || x.Data != strconv.Itoa(i) || x.Next != at+len(entries[i]) {
			t.Errorf("entry %d: %v", i, x)
		}
		at = x.Next
	}
	alls(t, packOf(1001, append(entries, entries[0])...), api.ErrBig)
}

// P11.3: what was answered is nobody else's.
func TestAllIsNew(t *testing.T) {
	s := unhex(t, gitByPlace)
	want, _ := All(s)
	want = slices.Clone(want)
	one, _ := All(s)
	two, _ := All(s)
	_ = append(one, Entry{At: 1})
	clear(one)
	if !slices.Equal(two, want) {
		t.Errorf("two answers share memory: %v", two)
	}
	alls(t, s, api.OK, want...)
}
