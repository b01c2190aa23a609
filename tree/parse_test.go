package tree

import (
	"bytes"
	"encoding/hex"
	"fmt"
	"math/rand"
	"slices"
	"strings"
	"testing"

	"cartulary/api"
)

const raw = "01234567890123456789"

// bytesOf: a tree's bytes by its words.
func bytesOf(l []api.Entry) string {
	var b bytes.Buffer
	for _, x := range l {
		id, _ := hex.DecodeString(x.Id)
		fmt.Fprintf(&b, "%o %s\x00%s", x.Mode, x.Name, id)
	}
	return b.String()
}

// parses holds Parse against what the document asks.
func parses(t *testing.T, what, s string, wantE api.Errno, want ...api.Entry) {
	t.Helper()
	l, e := Parse(s)
	if e != wantE || !slices.Equal(l, want) || e != api.OK && l != nil {
		t.Errorf("%s: Parse(%.80q): %.200v, %d, not %.200v, %d", what, s, l, e, want, wantE)
	}
}

// parseByWords: Parse by the document's words.
func parseByWords(s string) (l []api.Entry, e api.Errno) {
	for at := 0; at < len(s); {
		nought := strings.IndexByte(s[at:], 0)
		if nought < 0 || len(s)-(at+nought+1) < 20 {
			return nil, api.ErrEnd
		}
		ahead := s[at : at+nought]
		gap := strings.IndexByte(ahead, ' ')
		if gap < 0 {
			return nil, api.ErrText
		}
		mode := map[string]int{"40000": 16384, "100644": 33188, "100755": 33261, "120000": 40960, "160000": 57344}[ahead[:gap]]
		if mode == 0 {
			return nil, api.ErrText
		}
		l = append(l, api.Entry{Mode: mode, Name: ahead[gap+1:], Id: hex.EncodeToString([]byte(s[at+nought+1 : at+nought+21]))})
		if len(l) == 501 {
			return nil, api.ErrBig
		}
		at += nought + 21
	}
	if checkByWords(l) != api.OK {
		return nil, api.ErrForm
	}
	return l, api.OK
}

// P14.1: a tree that git has made (2d98a792b16d70d8ae5a0f98098f083543b83869), with all modes.
func TestGit(t *testing.T) {
	const folder = "4b825dc642cb6eb9a060e54bf8d69288fbee4904"
	l := []api.Entry{
		{Mode: Folder, Name: "...", Id: folder},
		{Mode: Plain, Name: ".gitx", Id: someId},
		{Mode: Plain, Name: "a-", Id: someId},
		{Mode: Plain, Name: "a.b", Id: someId},
		{Mode: Folder, Name: "a", Id: folder},
		{Mode: Runs, Name: "a0", Id: otherId},
		{Mode: Link, Name: "link to", Id: otherId},
		{Mode: Module, Name: "sub", Id: someId},
		{Mode: Plain, Name: "\xc3\x84", Id: otherId},
	}
	made, err := hex.DecodeString("3430303030202e2e2e00" + folder +
		"313030363434202e6769747800" + someId +
		"31303036343420612d00" + someId +
		"31303036343420612e6200" + someId +
		"3430303030206100" + folder +
		"31303037353520613000" + otherId +
		"313230303030206c696e6b20746f00" + otherId +
		"3136303030302073756200" + someId +
		"31303036343420c38400" + otherId)
	if err != nil {
		t.Fatal(err)
	}
	parses(t, "git's tree", string(made), api.OK, l...)
	if s, e := Format(l); s != string(made) || e != api.OK {
		t.Errorf("Format: %q, %d", s, e)
	}
}

// P14.1: the document's examples, and the bytes of each mode.
func TestFormat(t *testing.T) {
	for _, l := range [][]api.Entry{nil, {}} {
		if s, e := Format(l); s != "" || e != api.OK {
			t.Errorf("Format of none: %q, %d", s, e)
		}
	}
	for mode, digits := range map[int]string{Folder: "40000", Plain: "100644", Runs: "100755", Link: "120000", Module: "160000"} {
		l := []api.Entry{{Mode: mode, Name: "a b", Id: "30313233343536373839" + "30313233343536373839"}}
		s, e := Format(l)
		if s != digits+" a b\x00"+raw || e != api.OK {
			t.Errorf("Format of mode %o: %q, %d", mode, s, e)
		}
		parses(t, digits, digits+" a b\x00"+raw, api.OK, l...)
	}
	l := []api.Entry{entry(Plain, "a.b"), entry(Folder, "a"), entry(Runs, "a0")}
	if s, e := Format(l); s != bytesOf(l) || e != api.OK {
		t.Errorf("Format: %q, %d", s, e)
	}
}

// P14.1: no byte 0, and fewer than 20 bytes behind it.
func TestParseEnd(t *testing.T) {
	parses(t, "no bytes", "", api.OK)
	parses(t, "19 bytes", "40000 a\x00"+raw[1:], api.ErrEnd)
	parses(t, "20 bytes", "40000 a\x00"+raw, api.OK, api.Entry{Mode: Folder, Name: "a", Id: hex.EncodeToString([]byte(raw))})
	parses(t, "21 bytes", "40000 a\x00"+raw+"4", api.ErrEnd)
	parses(t, "no byte 0", "40000 a"+raw, api.ErrEnd)
	parses(t, "a 0 alone", "\x00", api.ErrEnd)
	parses(t, "a blank alone", " ", api.ErrEnd)
	// The first byte 0 counts, though there is another one in the name's bytes, or twenty bytes behind one.
	parses(t, "a 0 early", "40\x00000 a\x00"+raw[:14], api.ErrText)
	parses(t, "noughts alone", "40000 a\x00"+strings.Repeat("\x00", 20), api.OK, api.Entry{Mode: Folder, Name: "a", Id: strings.Repeat("0", 40)})
	parses(t, "noughts alone, one more", "40000 a\x00"+strings.Repeat("\x00", 21), api.ErrEnd)
	// What is wanting counts ahead of what isn't a mode.
	parses(t, "19 bytes and no mode", "4000 a\x00"+raw[1:], api.ErrEnd)
	parses(t, "19 bytes and no blank", "40000\x00"+raw[1:], api.ErrEnd)
	parses(t, "no byte 0, no mode", "zzz", api.ErrEnd)
	l := []api.Entry{entry(Plain, "a.b"), entry(Folder, "a"), entry(Runs, "a0"), entry(Link, "b")}
	s := bytesOf(l)
	ends := map[int]int{}
	for i := range l {
		ends[len(bytesOf(l[:i+1]))] = i + 1
	}
	ends[0] = 0
	for n := range len(s) + 1 {
		if k, whole := ends[n]; whole {
			parses(t, "a beginning", s[:n], api.OK, l[:k]...)
		} else {
			parses(t, "a beginning", s[:n], api.ErrEnd)
		}
	}
}

// P14.1: no blank, and what is no mode, as it is written.
func TestParseText(t *testing.T) {
	parses(t, "a nought ahead", "040000 a\x00"+raw, api.ErrText)
	parses(t, "no blank", "100644\x00"+raw, api.ErrText)
	parses(t, "nothing ahead of the 0", "\x00"+raw, api.ErrText)
	parses(t, "no blank, a name", "100644a\x00"+raw, api.ErrText)
	parses(t, "a blank ahead", " 100644 a\x00"+raw, api.ErrText)
	parses(t, "nothing ahead of the blank", " a\x00"+raw, api.ErrText)
	parses(t, "another kind of blank", "100644\ta\x00"+raw, api.ErrText)
	for _, mode := range []string{"0", "00", "4000", "400000", "0100644", "0000100644", "100664", "100600", "100640", "10064", "1006440", "644", "755", "0o40000", "40000.", "+40000", "-40000", "4_0000", "16384", "33188", "８", "140000", "100645", "120755", "160644", "40644", "40755", "FOLDER", "Folder", "100644\n", "0x4000"} {
		parses(t, mode, mode+" a\x00"+raw, api.ErrText)
		parses(t, mode, "100644 A\x00"+raw+mode+" a\x00"+raw, api.ErrText)
		parses(t, mode+", and a byte is wanting", mode+" a\x00"+raw+"100644 b", api.ErrText)
	}
	// Ahead of what isn't in form: each entry is read first.
	parses(t, "an entry without Name, then no mode", "100644 \x00"+raw+"7 a\x00"+raw, api.ErrText)
	parses(t, "one twice, then 19 bytes", "100644 a\x00"+raw+"100644 a\x00"+raw+"100644 b\x00"+raw[1:], api.ErrEnd)
}

// P14.1: entries that aren't in form; the first blank alone parts mode and Name.
func TestParseForm(t *testing.T) {
	parses(t, "no Name", "100644 \x00"+raw, api.ErrForm)
	parses(t, "a blank Name", "100644  \x00"+raw, api.OK, api.Entry{Mode: Plain, Name: " ", Id: hex.EncodeToString([]byte(raw))})
	parses(t, "blanks in a Name", "100644  a b \x00"+raw, api.OK, api.Entry{Mode: Plain, Name: " a b ", Id: hex.EncodeToString([]byte(raw))})
	for _, l := range [][]api.Entry{
		{entry(Plain, "b"), entry(Plain, "a")},
		{entry(Plain, "a"), entry(Plain, "a")},
		{entry(Plain, "a"), entry(Folder, "a")},
		{entry(Plain, "a"), entry(Plain, "a.b"), entry(Folder, "a")},
		{entry(Folder, "a"), entry(Plain, "a.b")},
		{entry(Folder, ".git")}, {entry(Folder, ".GIT")}, {entry(Plain, ".")}, {entry(Plain, "..")}, {entry(Plain, "a/b")}, {entry(Plain, "/")},
		{entry(Plain, strings.Repeat("a", 101))},
		{entry(Plain, "a"), entry(Plain, "b"), entry(Plain, "ab")},
	} {
		parses(t, "not in form", bytesOf(l), api.ErrForm)
	}
	l := []api.Entry{entry(Plain, ".gitx"), entry(Plain, strings.Repeat("a", 100))}
	parses(t, "in form", bytesOf(l), api.OK, l...)
}

// P14.1: entry number 501, ahead of what stands behind it and of what isn't in form, behind what that entry lacks.
func TestParseMany(t *testing.T) {
	for _, mode := range allModes {
		for _, n := range []int{1, 2, 499, 500} {
			l := numbered(n, mode)
			parses(t, fmt.Sprint(n, " entries"), bytesOf(l), api.OK, l...)
		}
		for _, n := range []int{501, 502, 1000} {
			parses(t, fmt.Sprint(n, " entries"), bytesOf(numbered(n, mode)), api.ErrBig)
		}
	}
	full, more := bytesOf(numbered(500, Plain)), bytesOf(numbered(501, Plain))
	parses(t, "behind 500: no byte 0", full+"100644 z", api.ErrEnd)
	parses(t, "behind 500: 19 bytes", full+"100644 z\x00"+raw[1:], api.ErrEnd)
	parses(t, "behind 500: no mode", full+"7 z\x00"+raw, api.ErrText)
	parses(t, "behind 500: no blank", full+"100644\x00"+raw, api.ErrText)
	parses(t, "behind 500: no Name", full+"100644 \x00"+raw, api.ErrBig)
	parses(t, "behind 501: a byte", more+"1", api.ErrBig)
	parses(t, "behind 501: no mode", more+"7 z\x00"+raw, api.ErrBig)
	same := "100644 a\x00" + raw
	parses(t, "500 of one Name", strings.Repeat(same, 500), api.ErrForm)
	parses(t, "501 of one Name", strings.Repeat(same, 501), api.ErrBig)
}

// P14.2: Parse(Format(l)) is l, Format(Parse(s)) is s.
func TestReadBack(t *testing.T) {
	random := rand.New(rand.NewSource(2))
	for n := range 400 {
		l := someEntries(random, n)
		s, e := Format(l)
		if s != bytesOf(l) || e != api.OK {
			t.Fatalf("Format(%v): %q, %d", l, s, e)
		}
		back, e := Parse(s)
		if !slices.Equal(back, l) || e != api.OK {
			t.Errorf("Parse(%q): %v, %d", s, back, e)
		}
		if again, e := Format(back); again != s || e != api.OK {
			t.Errorf("Format of what Parse told: %q, %d, not %q", again, e, s)
		}
	}
}

// P14.1, P14.2: spoilt bytes against the words; what is read is written again as it was.
func TestParseSpoilt(t *testing.T) {
	random := rand.New(rand.NewSource(3))
	counted := map[api.Errno]int{}
	for range 30000 {
		l := someEntries(random, 1+random.Intn(5))
		if random.Intn(3) == 0 {
			spoil(random, l)
		}
		b := []byte(bytesOf(l))
		for range random.Intn(3) {
			b = spoilBytes(random, b)
		}
		s := string(b)
		want, wantE := parseByWords(s)
		counted[wantE]++
		parses(t, "spoilt", s, wantE, want...)
		if wantE != api.OK {
			continue
		}
		if again, e := Format(want); again != s || e != api.OK {
			t.Errorf("Format of what %q says: %q, %d", s, again, e)
		}
	}
	for _, e := range []api.Errno{api.OK, api.ErrEnd, api.ErrText, api.ErrForm} {
		if counted[e] < 500 {
			t.Errorf("only %d times %d", counted[e], e)
		}
	}
}

// spoilBytes: a byte other, less or more, or the end left out.
func spoilBytes(random *rand.Rand, b []byte) []byte {
	if len(b) == 0 {
		return []byte{0}
	}
	i := random.Intn(len(b))
	c := "\x00 /0147a."[random.Intn(9)]
	switch random.Intn(5) {
	case 0:
		b[i] = c
	case 1:
		b[i]++
	case 2:
		return slices.Delete(b, i, i+1)
	case 3:
		return slices.Insert(b, i, c)
	case 4:
		return b[:i]
	}
	return b
}
