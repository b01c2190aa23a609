package object

import (
	"crypto/sha1"
	"encoding/hex"
	"fmt"
	"math"
	"math/rand"
	"regexp"
	"strconv"
	"strings"
	"testing"

	"cartulary/api"
)

var kindNames = map[int]string{1: "commit", 2: "tree", 3: "blob", 4: "tag"}

// encodes holds Encode against what the document asks.
func encodes(t *testing.T, o api.Object, want string, wantE api.Errno) {
	t.Helper()
	if s, e := Encode(o); s != want || e != wantE {
		t.Errorf("Encode(%d, %d bytes): %.40q, %d, not %.40q, %d", o.Kind, len(o.Data), s, e, want, wantE)
	}
}

// decodes holds Decode against what the document asks.
func decodes(t *testing.T, s string, want api.Object, wantE api.Errno) {
	t.Helper()
	if o, e := Decode(s); o != want || e != wantE {
		t.Errorf("Decode(%.40q): %d, %.40q, %d, not %d, %.40q, %d", s, o.Kind, o.Data, e, want.Kind, want.Data, wantE)
	}
}

// fails: Decode answers an error, and the zero object beside it.
func fails(t *testing.T, s string, want api.Errno) {
	t.Helper()
	decodes(t, s, api.Object{}, want)
}

// P8.1, P8.2: the examples of the document.
func TestExamples(t *testing.T) {
	encodes(t, api.Object{Kind: api.Blob, Data: "hi"}, "blob 2\x00hi", api.OK)
	if id, e := Id(api.Object{Kind: api.Blob}); id != "e69de29bb2d1d6434b8b29ae775ad8c2e48c5391" || e != api.OK {
		t.Errorf("the empty blob: %s, %d", id, e)
	}
	fails(t, "blob 02\x00hi", api.ErrText)
	fails(t, "blip 2\x00hi", api.ErrKind)
	fails(t, "blob 3\x00hi", api.ErrEnd)
	fails(t, "blob 1\x00hi", api.ErrText)
	fails(t, "blob 65001\x00", api.ErrBig)
	if MaxData != 65000 {
		t.Errorf("MaxData is %d", MaxData)
	}
}

// P8.1: the four kinds, and numbers that are none.
func TestName(t *testing.T) {
	for kind := -300; kind < 300; kind++ {
		if Name(kind) != kindNames[kind] {
			t.Errorf("Name(%d): %q", kind, Name(kind))
		}
	}
	for _, kind := range []int{math.MinInt, math.MaxInt, 1<<32 + 1, 1<<31 + 2, -1 << 32} {
		if Name(kind) != "" {
			t.Errorf("Name(%d): %q", kind, Name(kind))
		}
	}
}

// P8.1: the four names, and texts that are none.
func TestKind(t *testing.T) {
	for kind, name := range kindNames {
		if Kind(name) != kind {
			t.Errorf("Kind(%q): %d", name, Kind(name))
		}
		for _, other := range []string{name + " ", " " + name, name + "s", name + "\x00", name[1:], name[:len(name)-1], strings.ToUpper(name), strings.ToUpper(name[:1]) + name[1:], name + name, strconv.Itoa(kind)} {
			if Kind(other) != 0 {
				t.Errorf("Kind(%q): %d", other, Kind(other))
			}
		}
	}
	for _, other := range []string{"", " ", "\x00", "ofs-delta", "object", strings.Repeat("blob", 1000)} {
		if Kind(other) != 0 {
			t.Errorf("Kind(%q): %d", other, Kind(other))
		}
	}
}

var decimal = regexp.MustCompile(`^(0|[1-9][0-9]{0,8})\z`)

// numbers holds Number against its words.
func numbers(t *testing.T, s string) {
	t.Helper()
	want, ok := 0, decimal.MatchString(s)
	if ok {
		want, _ = strconv.Atoi(s)
	}
	if n, got := Number(s); n != want || got != ok {
		t.Errorf("Number(%q): %d, %v, not %d, %v", s, n, got, want, ok)
	}
}

// P8.1: all texts of up to two bytes, all short texts of digits and their neighbours, and the small numbers.
func TestNumber(t *testing.T) {
	numbers(t, "")
	for a := range 256 {
		numbers(t, string([]byte{byte(a)}))
		for b := range 256 {
			numbers(t, string([]byte{byte(a), byte(b)}))
		}
	}
	var grow func(text string)
	grow = func(text string) {
		numbers(t, text)
		if len(text) == 5 {
			return
		}
		for _, c := range "0195/:-+ " {
			grow(text + string(c))
		}
	}
	grow("")
	for n := range 70000 {
		numbers(t, strconv.Itoa(n))
		numbers(t, "0"+strconv.Itoa(n))
	}
}

// P8.1: nine digits and ten, noughts ahead, and what else a library might take for a number.
func TestNumberEdges(t *testing.T) {
	for s, want := range map[string]int{"0": 0, "1": 1, "9": 9, "10": 10, "100000000": 100000000, "999999999": 999999999, "123456789": 123456789, "987654321": 987654321, "65000": 65000} {
		if n, ok := Number(s); n != want || !ok {
			t.Errorf("Number(%q): %d, %v", s, n, ok)
		}
	}
	for _, s := range []string{"00", "01", "000000000", "012345678", "0000000001", "1000000000", "1234567890", "9999999999", "4294967297", "18446744073709551617", strings.Repeat("1", 1000), "-1", "-0", "+1", " 1", "1 ", "1\n", "1\x00", "1_0", "0x1", "1e3", "1.0", "١", "１", "a", "12345678a", "a12345678"} {
		if n, ok := Number(s); n != 0 || ok {
			t.Errorf("Number(%q): %d, %v", s, n, ok)
		}
	}
	random := rand.New(rand.NewSource(5))
	for range 20000 {
		numbers(t, strconv.Itoa(random.Intn(2000000000)))
	}
}

// P8.1: kinds 0 and 5, as many bytes as are allowed and one more; the kind counts first.
func TestCheck(t *testing.T) {
	full := strings.Repeat("x", 65000)
	for kind := -2; kind < 8; kind++ {
		for _, data := range []string{"", "x", full, full + "x", full + full} {
			o := api.Object{Kind: kind, Data: data}
			want := api.OK
			if kind < 1 || kind > 4 {
				want = api.ErrKind
			} else if len(data) > 65000 {
				want = api.ErrBig
			}
			if e := Check(o); e != want {
				t.Errorf("Check(%d, %d bytes): %d, not %d", kind, len(data), e, want)
			}
			text := ""
			if want == api.OK {
				text = fmt.Sprintf("%s %d\x00%s", kindNames[kind], len(data), data)
			}
			encodes(t, o, text, want)
		}
	}
	for _, kind := range []int{math.MinInt, math.MaxInt} {
		if e := Check(api.Object{Kind: kind, Data: full + "x"}); e != api.ErrKind {
			t.Errorf("Check(%d): %d", kind, e)
		}
	}
}

// P8.1: what Decode answers by its words, asked in their order.
func decodedByWords(s string) (api.Object, api.Errno) {
	zero := strings.Index(s, "\x00")
	if zero < 0 {
		return api.Object{}, api.ErrText
	}
	blank := strings.Index(s[:zero], " ")
	if blank < 0 || !decimal.MatchString(s[blank+1:zero]) {
		return api.Object{}, api.ErrText
	}
	number, _ := strconv.Atoi(s[blank+1 : zero])
	data := s[zero+1:]
	for kind, name := range kindNames {
		if name != s[:blank] {
			continue
		}
		if number > 65000 {
			return api.Object{}, api.ErrBig
		}
		if number > len(data) {
			return api.Object{}, api.ErrEnd
		}
		if number < len(data) {
			return api.Object{}, api.ErrText
		}
		return api.Object{Kind: kind, Data: data}, api.OK
	}
	return api.Object{}, api.ErrKind
}

// P8.1: heads of all kinds of parts, each with Data of several lengths.
func TestDecodeAgainstWords(t *testing.T) {
	names := []string{"commit", "tree", "blob", "tag", "", "blip", "Blob", "blob ", " blob", "blob\n", "\xff", "tag\x00"}
	parts := []string{" ", "", "  ", "\t", "\x00", " \x00"}
	digits := []string{"0", "1", "2", "3", "10", "", "00", "01", "02", "+2", "-1", "2 ", " 2", "2a", "65000", "65001", "99999", "999999999", "1000000000", "0000000002", "9999999999999999999"}
	ends := []string{"\x00", "", "\x00\x00", " \x00", "\n\x00", "\x01"}
	full := strings.Repeat("y", 65000)
	datas := []string{"", "h", "hi", "hi ", "\x00i", "\x00\x00", "ten bytes!", full[:64999], full, full + "y"}
	seen := map[api.Errno]int{}
	for _, name := range names {
		for _, part := range parts {
			for _, digit := range digits {
				for _, end := range ends {
					for _, data := range datas {
						s := name + part + digit + end + data
						o, e := decodedByWords(s)
						seen[e]++
						decodes(t, s, o, e)
					}
				}
			}
		}
	}
	for _, e := range []api.Errno{api.OK, api.ErrText, api.ErrKind, api.ErrBig, api.ErrEnd} {
		if seen[e] < 10 {
			t.Errorf("the answer %d was met %d times", e, seen[e])
		}
	}
}

// P8.1: texts without a byte 0, without a blank, with two blanks, of fewer and of more bytes than the number says.
func TestDecodeEdges(t *testing.T) {
	for _, s := range []string{"", "\x00", "blob", "blob 2", "blob 2hi", "blob\x00hi", "blob2\x00hi", "\x00blob 2\x00hi", "blob\x002 hi", " \x00", "blob \x00", "blob  2\x00hi", "blob 2 \x00hi", "blob 2 2\x00hi", " blob 2\x00hi", "blob\t2\x00hi", "blob 2\x00hi!", "blob 0\x00h", "blob 2\x00hi\x00"} {
		fails(t, s, api.ErrText)
	}
	for _, s := range []string{" 2\x00hi", "blip 2\x00hi", "BLOB 2\x00hi", "blip 3\x00hi", "blip 1\x00hi", "blip 65001\x00", "bl\nob 0\x00", "3 2\x00hi"} {
		fails(t, s, api.ErrKind)
	}
	for _, s := range []string{"blob 65001\x00", "tag 999999999\x00", "tree 65001\x00" + strings.Repeat("z", 65001), "commit 65001\x00" + strings.Repeat("z", 65002)} {
		fails(t, s, api.ErrBig)
	}
	for _, s := range []string{"blob 3\x00hi", "blob 1\x00", "tree 65000\x00", "tag 65000\x00" + strings.Repeat("z", 64999)} {
		fails(t, s, api.ErrEnd)
	}
	decodes(t, "blob 0\x00", api.Object{Kind: api.Blob}, api.OK)
	decodes(t, "tag 1\x00\x00", api.Object{Kind: api.Tag, Data: "\x00"}, api.OK)
	decodes(t, "tree 7\x00tag 0\x00 ", api.Object{Kind: api.Tree, Data: "tag 0\x00 "}, api.OK)
}

// P8.1: where several errors apply, the first counts.
func TestDecodeOrder(t *testing.T) {
	fails(t, "blip 02\x00hi", api.ErrText)
	fails(t, "blip x\x00", api.ErrText)
	fails(t, "blip 1000000000\x00", api.ErrText)
	fails(t, "blip 999999999\x00", api.ErrKind)
	fails(t, "blip 9\x00", api.ErrKind)
	fails(t, "blob 1000000000\x00", api.ErrText)
	fails(t, "blob 999999999\x00", api.ErrBig)
	fails(t, "blob 9", api.ErrText)
}

// P8.1: random spoilings of a text.
func TestDecodeSpoilt(t *testing.T) {
	random := rand.New(rand.NewSource(8))
	for range 40000 {
		s := []byte("commit 13\x00tree 0 blob\x00 ")
		for range 1 + random.Intn(3) {
			if len(s) == 0 {
				break
			}
			at := random.Intn(len(s))
			switch random.Intn(4) {
			case 0:
				s[at] = byte(random.Intn(256))
			case 1:
				s = append(s[:at], s[at+1:]...)
			case 2:
				s[at] = " 0129\x00bt"[random.Intn(8)]
			case 3:
				s = s[:at]
			}
		}
		o, e := decodedByWords(string(s))
		decodes(t, string(s), o, e)
	}
}

// nameOf: an object's name as the library adds it up.
func nameOf(o api.Object) string {
	sum := sha1.Sum([]byte(fmt.Sprintf("%s %d\x00%s", kindNames[o.Kind], len(o.Data), o.Data)))
	return hex.EncodeToString(sum[:])
}

// P8.2: names that are known, of git's own making.
func TestKnownIds(t *testing.T) {
	for want, o := range map[string]api.Object{
		"4b825dc642cb6eb9a060e54bf8d69288fbee4904": {Kind: api.Tree},
		"ce013625030ba8dba906f756967f9e9ca394464a": {Kind: api.Blob, Data: "hello\n"},
		"8ab686eafeb1f44702738c8b0f24f2567c36da6d": {Kind: api.Blob, Data: "Hello, World!\n"},
		"d670460b4b4aece5915caf5c68d12f560a9fe3e4": {Kind: api.Blob, Data: "test content\n"},
	} {
		if id, e := Id(o); id != want || e != api.OK {
			t.Errorf("Id(%d, %q): %s, %d, not %s", o.Kind, o.Data, id, e, want)
		}
	}
}

// someObjects: of each kind, of many lengths, the least and the greatest too.
func someObjects() []api.Object {
	random := rand.New(rand.NewSource(9))
	var objects []api.Object
	for kind := api.Commit; kind <= api.Tag; kind++ {
		for _, n := range []int{0, 1, 2, 9, 10, 11, 99, 100, 999, 1000, 9999, 10000, 64999, 65000} {
			b := make([]byte, n)
			random.Read(b)
			objects = append(objects, api.Object{Kind: kind, Data: string(b)}, api.Object{Kind: kind, Data: strings.Repeat("\x00", n)}, api.Object{Kind: kind, Data: strings.Repeat("blob 0\x00", n)[:n]})
		}
	}
	return objects
}

// P8.2: names against the library's; the errors of Check.
func TestId(t *testing.T) {
	for _, o := range someObjects() {
		if id, e := Id(o); id != nameOf(o) || e != api.OK {
			t.Errorf("Id(%d, %d bytes): %s, %d", o.Kind, len(o.Data), id, e)
		}
	}
	full := strings.Repeat("x", 65001)
	for _, wrong := range []struct {
		o api.Object
		e api.Errno
	}{
		{api.Object{}, api.ErrKind}, {api.Object{Kind: 5, Data: "a"}, api.ErrKind}, {api.Object{Kind: -1}, api.ErrKind},
		{api.Object{Kind: 0, Data: full}, api.ErrKind}, {api.Object{Kind: 5, Data: full}, api.ErrKind},
		{api.Object{Kind: api.Commit, Data: full}, api.ErrBig}, {api.Object{Kind: api.Tag, Data: full}, api.ErrBig},
	} {
		if id, e := Id(wrong.o); id != "" || e != wrong.e {
			t.Errorf("Id(%d, %d bytes): %s, %d, not %d", wrong.o.Kind, len(wrong.o.Data), id, e, wrong.e)
		}
	}
}

// P8.3: what was written is read again; with a byte more or less it isn't.
func TestDecodeEncode(t *testing.T) {
	for _, o := range someObjects() {
		s, e := Encode(o)
		if e != api.OK {
			t.Fatalf("Encode(%d, %d bytes): %d", o.Kind, len(o.Data), e)
		}
		decodes(t, s, o, api.OK)
		fails(t, s+"\x00", api.ErrText)
		if len(o.Data) > 0 {
			fails(t, s[:len(s)-1], api.ErrEnd)
		} else {
			fails(t, s[:len(s)-1], api.ErrText)
		}
	}
}
