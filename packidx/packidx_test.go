package packidx

import (
	"crypto/sha1"
	"encoding/binary"
	"encoding/hex"
	"math"
	"math/rand"
	"slices"
	"strconv"
	"strings"
	"testing"

	"cartulary/api"
)

// parts are those of an index's bytes, which need not be right.
type parts struct {
	start  string
	ends   [256]uint32
	names  []string // as digits
	crcs   []uint32
	places []uint32
	far    []uint64
	sum    string // as digits
}

// summed: a text with its SHA-1 behind it, by the library.
func summed(text string) string {
	sum := sha1.Sum([]byte(text))
	return text + string(sum[:])
}

// text: the bytes of these parts, by the words of the document.
func (p parts) text() string {
	b := []byte(p.start)
	for _, end := range p.ends {
		b = binary.BigEndian.AppendUint32(b, end)
	}
	for _, name := range p.names {
		b, _ = hex.AppendDecode(b, []byte(name))
	}
	for _, crc := range p.crcs {
		b = binary.BigEndian.AppendUint32(b, crc)
	}
	for _, place := range p.places {
		b = binary.BigEndian.AppendUint32(b, place)
	}
	for _, place := range p.far {
		b = binary.BigEndian.AppendUint64(b, place)
	}
	b, _ = hex.AppendDecode(b, []byte(p.sum))
	return summed(string(b))
}

// endsBy: number i says of how many names the first byte is at most i.
func endsBy(names []string) (ends [256]uint32) {
	for i := range ends {
		for _, name := range names {
			if first, _ := strconv.ParseUint(name[:2], 16, 8); int(first) <= i {
				ends[i]++
			}
		}
	}
	return ends
}

// partsOf: the parts of rows that are right, with places from far on among the far ones.
func partsOf(rows []Row, sum string, far int) parts {
	rows = sorted(rows)
	p := parts{start: "\xfftOc\x00\x00\x00\x02", sum: sum}
	for _, row := range rows {
		p.names = append(p.names, row.Id)
		p.crcs = append(p.crcs, row.Crc)
		if row.At < far && row.At < 2147483648 {
			p.places = append(p.places, uint32(row.At))
			continue
		}
		p.places = append(p.places, 2147483648+uint32(len(p.far)))
		p.far = append(p.far, uint64(row.At))
	}
	p.ends = endsBy(p.names)
	return p
}

// sorted: a copy of the rows, by rising names.
func sorted(rows []Row) []Row {
	rows = slices.Clone(rows)
	slices.SortFunc(rows, func(a, b Row) int { return strings.Compare(a.Id, b.Id) })
	return rows
}

// someSum: a pack's sum.
const someSum = "ce013625030ba8dba906f756967f9e9ca394464a"

// nameOf: a name of forty digits for each number.
func nameOf(i int) string {
	sum := sha1.Sum([]byte(strconv.Itoa(i)))
	return hex.EncodeToString(sum[:])
}

// someRows: n rows with near places.
func someRows(n int) []Row {
	var rows []Row
	for i := range n {
		rows = append(rows, Row{Id: nameOf(i), At: 12 + 100*i, Crc: uint32(i) * 0x12345678})
	}
	return rows
}

// parses holds Parse against an error, nil beside it.
func parses(t *testing.T, s string, want api.Errno) {
	t.Helper()
	if x, e := Parse(s); x != nil || e != want {
		t.Errorf("Parse of %d bytes: %v, %d, not %d", len(s), x != nil, e, want)
	}
}

// tells holds all that an index answers against rows by rising names.
func tells(t *testing.T, x *Idx, rows []Row, sum string) {
	t.Helper()
	if x.Len() != len(rows) || x.Sum() != sum {
		t.Fatalf("%d rows, %q, not %d, %q", x.Len(), x.Sum(), len(rows), sum)
	}
	var ids []string
	for i, row := range rows {
		if r, e := x.At(i); r != row || e != api.OK {
			t.Errorf("At(%d): %v, %d, not %v", i, r, e, row)
		}
		if r, e := x.Find(row.Id); r != row || e != api.OK {
			t.Errorf("Find(%s): %v, %d, not %v", row.Id, r, e, row)
		}
		ids = append(ids, row.Id)
	}
	for _, i := range []int{math.MinInt, -2, -1, len(rows), len(rows) + 1, 1000, math.MaxInt} {
		if r, e := x.At(i); i >= len(rows) || i < 0 {
			if r != (Row{}) || e != api.ErrAbsent {
				t.Errorf("At(%d): %v, %d", i, r, e)
			}
		}
	}
	if l := x.Match(""); !slices.Equal(l, ids) {
		t.Errorf("Match of nothing: %q", l)
	}
}

// isRead: these bytes are an index of these rows.
func isRead(t *testing.T, s string, rows []Row, sum string) {
	t.Helper()
	x, e := Parse(s)
	if e != api.OK || x == nil {
		t.Fatalf("Parse of %d bytes: %d", len(s), e)
	}
	tells(t, x, rows, sum)
}

// P12.1, P12.2: the example of the document.
func TestExamples(t *testing.T) {
	row := Row{Id: someSum, At: 12, Crc: 7}
	for _, y := range []struct {
		rows  []Row
		far   int
		bytes int
	}{{nil, 1 << 31, 1072}, {[]Row{}, 0, 1072}, {[]Row{row}, 1 << 31, 1100}, {[]Row{row}, 0, 1108}} {
		s, e := Build(y.rows, nameOf(1), y.far)
		if e != api.OK || len(s) != y.bytes {
			t.Errorf("Build: %d bytes, %d, not %d", len(s), e, y.bytes)
		}
		isRead(t, s, y.rows, nameOf(1))
	}
}

// what git tells of a pack, and its indexes of that: with near places, and with those above 256 far.
var byGit = []Row{
	{"402bbf3cebfb198607231135ed9c2db17823f6ca", 12, 0x83d26ece},
	{"53b7b2ebb6fc5811121a95cf0253a416e40aff17", 322, 0xde883296},
	{"5be7dda6288f201a4531727e0c1051d8cc62df72", 107, 0x87f25d77},
	{"6d96bb0da4492553e95cfcafc8f9d78cef1dfcf3", 465, 0x44a5d730},
	{"bf5b5109336552924cebb73c8ba45ee8022d7c70", 491, 0xa1d87a40},
	{"d96a99f2d5aa81db3671e1b50c3c85508cf15333", 206, 0xc23fd37f},
	{"e69de29bb2d1d6434b8b29ae775ad8c2e48c5391", 509, 0x6e760029},
}

const (
	gitSum   = "e945cef6103556a6b4512162eade90388d902809"
	gitNames = "402bbf3cebfb198607231135ed9c2db17823f6ca53b7b2ebb6fc5811121a95cf0253a416e40aff175be7dda6288f201a4531727e0c1051d8cc62df726d96bb0da4492553e95cfcafc8f9d78cef1dfcf3bf5b5109336552924cebb73c8ba45ee8022d7c70d96a99f2d5aa81db3671e1b50c3c85508cf15333e69de29bb2d1d6434b8b29ae775ad8c2e48c5391" +
		"83d26ecede88329687f25d7744a5d730a1d87a40c23fd37f6e760029"
	gitNear = "0000000c000001420000006b000001d1000001eb000000ce000001fde945cef6103556a6b4512162eade90388d902809ba4d903b0618d7bb32960694a2fcdace624dc982"
	gitFar  = "0000000c800000000000006b8000000180000002000000ce80000003000000000000014200000000000001d100000000000001eb00000000000001fde945cef6103556a6b4512162eade90388d902809898f43908c84ecd9f0033180c458076262de3b8f"
)

// gitIndex: the bytes of git's index; its 256 numbers are told shortly here.
func gitIndex(t *testing.T, behind string) string {
	t.Helper()
	b := []byte("\xfftOc\x00\x00\x00\x02")
	for i := range 256 {
		n := uint32(0)
		for _, first := range []int{0x40, 0x53, 0x5b, 0x6d, 0xbf, 0xd9, 0xe6} {
			if i >= first {
				n++
			}
		}
		b = binary.BigEndian.AppendUint32(b, n)
	}
	b, err := hex.AppendDecode(b, []byte(gitNames+behind))
	if err != nil {
		t.Fatal(err)
	}
	return string(b)
}

// P12.1, P12.2: indexes of git's own making are read, and Build makes the same bytes.
func TestByGit(t *testing.T) {
	near, far := gitIndex(t, gitNear), gitIndex(t, gitFar)
	isRead(t, near, byGit, gitSum)
	isRead(t, far, byGit, gitSum)
	if s, e := Build(byGit, gitSum, 1<<31); s != near || e != api.OK {
		t.Errorf("Build: %x, %d", s, e)
	}
	if s, e := Build(byGit, gitSum, 257); s != far || e != api.OK {
		t.Errorf("Build with 257: %x, %d", s, e)
	}
}

// P12.1: names that are there and such as are not.
func TestFind(t *testing.T) {
	rows := sorted(someRows(300))
	x, e := Parse(partsOf(rows, someSum, 1<<31).text())
	if e != api.OK {
		t.Fatalf("Parse: %d", e)
	}
	tells(t, x, rows, someSum)
	absent := []string{"", "0", "z", "\xff", strings.Repeat("0", 40), strings.Repeat("f", 40), nameOf(300), nameOf(301), someSum, strings.Repeat("g", 40)}
	for _, row := range rows {
		absent = append(absent, row.Id[:39], row.Id+"0", row.Id+"\x00", strings.ToUpper(row.Id), " "+row.Id, row.Id[1:], "0"+row.Id, row.Id+row.Id)
		for place := range 40 {
			digit := "0"
			if row.Id[place] == '0' {
				digit = "1"
			}
			absent = append(absent, row.Id[:place]+digit+row.Id[place+1:])
		}
	}
	for _, id := range absent {
		if r, e := x.Find(id); r != (Row{}) || e != api.ErrAbsent {
			t.Errorf("Find(%q): %v, %d", id, r, e)
		}
	}
}

// P12.1: any text may be asked for as a beginning.
func TestMatch(t *testing.T) {
	rows := someRows(500)
	// Names with long beginnings in common, at the edges of all names too.
	for i, front := range []string{strings.Repeat("0", 39), strings.Repeat("f", 39), "abcdef0123456789abcdef0123456789abcdef0"} {
		for _, digit := range "05af" {
			rows = append(rows, Row{Id: front + string(digit), At: i})
		}
	}
	rows = sorted(rows)
	x, e := Parse(partsOf(rows, someSum, 1<<31).text())
	if e != api.OK {
		t.Fatalf("Parse: %d", e)
	}
	fronts := []string{"", "\x00", "\xff", "/", ":", "`", "a", "g", "A", "F", "ff", "00", "0g", "é", strings.Repeat("0", 41), strings.Repeat("f", 41), strings.Repeat("f", 100)}
	for _, row := range rows {
		for _, n := range []int{1, 2, 3, 4, 5, 7, 12, 38, 39, 40} {
			fronts = append(fronts, row.Id[:n], row.Id[:n]+"x", row.Id[:n]+"\x00", strings.ToUpper(row.Id[:n]), row.Id[1:n])
		}
	}
	for _, front := range fronts {
		var want []string
		for _, row := range rows {
			if strings.HasPrefix(row.Id, front) {
				want = append(want, row.Id)
			}
		}
		if l := x.Match(front); !slices.Equal(l, want) {
			t.Errorf("Match(%q): %q, not %q", front, l, want)
		}
	}
}

// P12.1: the zero index has no rows and no sum.
func TestZero(t *testing.T) {
	for _, x := range []*Idx{{}, new(Idx)} {
		tells(t, x, nil, "")
		for _, id := range []string{"", "a", someSum, strings.Repeat("0", 40)} {
			if r, e := x.Find(id); r != (Row{}) || e != api.ErrAbsent {
				t.Errorf("Find(%q): %v, %d", id, r, e)
			}
			if l := x.Match(id); len(l) != 0 {
				t.Errorf("Match(%q): %q", id, l)
			}
		}
	}
}

// P12.3: what was answered is nobody else's, and asking changes nothing.
func TestAnswersAreNew(t *testing.T) {
	rows := sorted(someRows(20))
	s := partsOf(rows, someSum, 1000).text()
	x, _ := Parse(s)
	one, two := x.Match(""), x.Match("")
	want := slices.Clone(two)
	_ = append(one[:10], "behind")
	for i := range one {
		one[i] = "spoilt"
	}
	if !slices.Equal(two, want) {
		t.Errorf("two answers share memory: %q", two)
	}
	r, _ := x.At(3)
	r.Id, r.At, r.Crc = "spoilt", -1, 0
	tells(t, x, rows, someSum)
	y, _ := Parse(s)
	*x = Idx{}
	tells(t, y, rows, someSum)
}

// shuffled: a copy of the rows in another order.
func shuffled(random *rand.Rand, rows []Row) []Row {
	rows = slices.Clone(rows)
	random.Shuffle(len(rows), func(i, k int) { rows[i], rows[k] = rows[k], rows[i] })
	return rows
}
