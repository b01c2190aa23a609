package huff

import (
	"math"
	"math/rand"
	"slices"
	"strings"
	"testing"

	"cartulary/api"
	"cartulary/bitin"
)

// digits: a code as noughts and ones, the highest bit first.
func digits(code uint32, length int) string {
	var b strings.Builder
	for k := length - 1; k >= 0; k-- {
		b.WriteByte('0' + byte(code>>k&1))
	}
	return b.String()
}

// slowCodes makes the codes by the document's words alone; "" for a symbol without one.
func slowCodes(lengths []int) ([]string, api.Errno) {
	if len(lengths) > 320 {
		return nil, api.ErrBig
	}
	codes, sum := 0, 0.0
	for _, n := range lengths {
		if n < 0 || n > 15 {
			return nil, api.ErrArg
		}
		if n > 0 {
			codes++
			sum += math.Pow(2, -float64(n))
		}
	}
	alone := codes == 1 && slices.Contains(lengths, 1)
	if sum > 1 || sum < 1 && codes > 0 && !alone {
		return nil, api.ErrForm
	}
	told := make([]string, len(lengths))
	next := uint32(0)
	for n := 1; n <= 15; n++ {
		next *= 2
		for symbol, length := range lengths {
			if length == n {
				told[symbol] = digits(next, n)
				next++
			}
		}
	}
	return told, api.OK
}

// slowRead reads a row of noughts and ones bit by bit.
func slowRead(codes []string, row string) (int, int, api.Errno) {
	begins := func(s string) bool {
		for _, c := range codes {
			if c != "" && strings.HasPrefix(c, s) {
				return true
			}
		}
		return false
	}
	if !begins("") {
		return 0, 0, api.ErrText
	}
	for n := 1; ; n++ {
		if n > len(row) {
			return 0, 0, api.ErrEnd
		}
		if symbol := slices.Index(codes, row[:n]); symbol >= 0 {
			return symbol, n, api.OK
		}
		if !begins(row[:n]) {
			return 0, 0, api.ErrText
		}
	}
}

// rowOf: the bits that a reader has still, which it keeps.
func rowOf(r bitin.Reader) string {
	var b strings.Builder
	for {
		x, ok := r.Bits(1)
		if !ok {
			return b.String()
		}
		b.WriteByte('0' + byte(x))
	}
}

// check holds New, Code and Read of these lengths against the document's words.
func check(t *testing.T, lengths []int, texts []string) {
	t.Helper()
	want, wantE := slowCodes(lengths)
	table, e := New(lengths)
	if e != wantE || (table == nil) != (e != api.OK) {
		t.Fatalf("New(%v): %v, %d, not %d", lengths, table, e, wantE)
	}
	if e != api.OK {
		return
	}
	for symbol, code := range want {
		c, n := table.Code(symbol)
		if n != len(code) || digits(c, n) != code || c>>n != 0 {
			t.Fatalf("New(%v), Code(%d): %d, %d, not %q", lengths, symbol, c, n, code)
		}
	}
	for _, text := range texts {
		r := bitin.New(text, 0)
		for {
			row := rowOf(*r)
			symbol, e := table.Read(r)
			wantSymbol, taken, wantE := slowRead(want, row)
			if symbol != wantSymbol || e != wantE {
				t.Fatalf("New(%v), Read of %s: %d, %d, not %d, %d", lengths, row, symbol, e, wantSymbol, wantE)
			}
			if e != api.OK {
				break
			}
			if r.Left() != len(row)-taken {
				t.Fatalf("New(%v), Read of %s: %d bits taken, not %d", lengths, row, len(row)-r.Left(), taken)
			}
		}
	}
}

// P4.1, P4.2: all rows of up to five lengths from -1 to 5.
func TestAllShortLengths(t *testing.T) {
	texts := []string{"", "\x00", "\xff", "\x5a\xc3\x17"}
	var lay func(lengths []int)
	lay = func(lengths []int) {
		check(t, lengths, texts)
		if len(lengths) == 5 {
			return
		}
		for n := -1; n <= 5; n++ {
			lay(append(slices.Clone(lengths), n))
		}
	}
	lay(nil)
}

// split makes lengths whose sum is 1, by splitting codes at random, with symbols without a code among them.
func split(random *rand.Rand, most, longest int) []int {
	lengths := []int{1, 1}
	for k := 0; k < 4*most && len(lengths) < most; k++ {
		i := random.Intn(len(lengths))
		if lengths[i] < longest {
			lengths[i]++
			lengths = append(lengths, lengths[i])
		}
	}
	for k := random.Intn(10); k > 0 && len(lengths) < MaxSymbols; k-- {
		lengths = append(lengths, 0)
	}
	random.Shuffle(len(lengths), func(i, j int) { lengths[i], lengths[j] = lengths[j], lengths[i] })
	return lengths
}

// P4.1, P4.2: great sets of codes, as they are and spoilt in one place.
func TestGreatSets(t *testing.T) {
	random := rand.New(rand.NewSource(11))
	for round := 0; round < 60; round++ {
		lengths := split(random, 2+random.Intn(MaxSymbols-1), 9+random.Intn(7))
		text := make([]byte, 60)
		random.Read(text)
		check(t, lengths, []string{string(text)})
		spoilt := slices.Clone(lengths)
		spoilt[random.Intn(len(spoilt))] = random.Intn(19) - 1
		check(t, spoilt, []string{string(text)})
	}
}

// P4.2: what Code tells, written by bitin's Code, is read as the symbol.
func TestWrittenAndRead(t *testing.T) {
	random := rand.New(rand.NewSource(13))
	for round := 0; round < 60; round++ {
		lengths := split(random, 2+random.Intn(MaxSymbols-1), 9+random.Intn(7))
		table, e := New(lengths)
		if e != api.OK {
			t.Fatalf("New(%v): %d", lengths, e)
		}
		var w bitin.Writer
		var put []int
		for k := 0; k < 400; k++ {
			symbol := random.Intn(len(lengths))
			if c, n := table.Code(symbol); n > 0 {
				w.Code(c, n)
				put = append(put, symbol)
			}
		}
		r := bitin.New(w.Text(), 0)
		for i, want := range put {
			if symbol, e := table.Read(r); symbol != want || e != api.OK {
				t.Fatalf("symbol %d: %d, %d, not %d", i, symbol, e, want)
			}
		}
	}
}

// P4.3: codes are unlike, and none begins another one.
func TestNoCodeBeginsAnother(t *testing.T) {
	random := rand.New(rand.NewSource(17))
	for round := 0; round < 40; round++ {
		lengths := split(random, 2+random.Intn(200), 15)
		table, _ := New(lengths)
		var codes []string
		for symbol := range lengths {
			if c, n := table.Code(symbol); n > 0 {
				codes = append(codes, digits(c, n))
			}
		}
		for i, a := range codes {
			for j, b := range codes {
				if i != j && strings.HasPrefix(b, a) {
					t.Fatalf("New(%v): %s begins %s", lengths, a, b)
				}
			}
		}
	}
}

// P4.1: the codes that RFC 1951, 3.2.6, writes down.
func TestFixedCodes(t *testing.T) {
	var lengths []int
	for symbol := 0; symbol < 288; symbol++ {
		switch {
		case symbol < 144:
			lengths = append(lengths, 8)
		case symbol < 256:
			lengths = append(lengths, 9)
		case symbol < 280:
			lengths = append(lengths, 7)
		default:
			lengths = append(lengths, 8)
		}
	}
	table, e := New(lengths)
	if e != api.OK {
		t.Fatalf("New: %d", e)
	}
	for symbol, want := range map[int]string{
		0: "00110000", 143: "10111111", 144: "110010000", 255: "111111111",
		256: "0000000", 279: "0010111", 280: "11000000", 287: "11000111",
	} {
		if c, n := table.Code(symbol); digits(c, n) != want {
			t.Errorf("Code(%d): %s, not %s", symbol, digits(c, n), want)
		}
	}
}

// P4.1: which of several errors is told, and at which bounds.
func TestNewErrors(t *testing.T) {
	full := make([]int, MaxSymbols)
	full[0], full[MaxSymbols-1] = 1, 1
	deep := []int{15, 15}
	for n := 1; n < 15; n++ {
		deep = append(deep, n)
	}
	for name, c := range map[string]struct {
		lengths []int
		want    api.Errno
	}{
		"320 lengths":                    {full, api.OK},
		"321 lengths":                    {append(slices.Clone(full), 0), api.ErrBig},
		"321 lengths, one wrong":         {append(slices.Clone(full), -1), api.ErrBig},
		"321 lengths above 1":            {append(slices.Clone(full), 1), api.ErrBig},
		"length 15":                      {deep, api.OK},
		"length 16":                      {append(slices.Clone(deep), 16), api.ErrArg},
		"length -1":                      {[]int{1, 1, -1}, api.ErrArg},
		"a wrong length and above 1":     {[]int{1, 1, 1, 16}, api.ErrArg},
		"a wrong length and below 1":     {[]int{2, -1}, api.ErrArg},
		"the least length":               {[]int{math.MinInt}, api.ErrArg},
		"the greatest length":            {[]int{math.MaxInt}, api.ErrArg},
		"above 1":                        {[]int{1, 1, 1}, api.ErrForm},
		"above 1 by the least":           {append(slices.Clone(deep), 15), api.ErrForm},
		"below 1":                        {[]int{2, 2}, api.ErrForm},
		"below 1 by the least":           {deep[1:], api.ErrForm},
		"one code of length 2":           {[]int{2}, api.ErrForm},
		"one code of length 15":          {[]int{0, 15}, api.ErrForm},
		"320 codes of length 1":          {slices.Repeat([]int{1}, 320), api.ErrForm},
		"a code of length 1 and another": {[]int{1, 0, 2}, api.ErrForm},
		"one code of length 1":           {[]int{0, 0, 1, 0}, api.OK},
		"no code":                        {[]int{0, 0}, api.OK},
		"nil":                            {nil, api.OK},
		"an empty list":                  {[]int{}, api.OK},
	} {
		table, e := New(c.lengths)
		if e != c.want || (table == nil) != (e != api.OK) {
			t.Errorf("%s: %d, not %d", name, e, c.want)
		}
	}
}

// P4.1: no such symbol, or one without a code.
func TestCodeOfNone(t *testing.T) {
	table, _ := New([]int{0, 2, 1, 0, 2})
	for _, symbol := range []int{math.MinInt, -1, 0, 3, 5, 320, math.MaxInt} {
		if c, n := table.Code(symbol); c != 0 || n != 0 {
			t.Errorf("Code(%d): %d, %d", symbol, c, n)
		}
	}
}

// P4.2: one code alone, and none.
func TestReadOfFewCodes(t *testing.T) {
	one, _ := New([]int{0, 1})
	if c, n := one.Code(1); c != 0 || n != 1 {
		t.Errorf("Code(1): %d, %d", c, n)
	}
	lastBit := func(x string) *bitin.Reader {
		r := bitin.New(x, 0)
		r.Skip(7)
		return r
	}
	if _, e := one.Read(lastBit("\x80")); e != api.ErrText {
		t.Errorf("a last bit 1: %d", e)
	}
	last := lastBit("\x7f")
	if symbol, e := one.Read(last); symbol != 1 || e != api.OK || last.Left() != 0 {
		t.Errorf("a last bit 0: %d, %d, left %d", symbol, e, last.Left())
	}
	if _, e := one.Read(last); e != api.ErrEnd {
		t.Errorf("no bit: %d", e)
	}
	for _, lengths := range [][]int{nil, {0}, make([]int, 320)} {
		none, _ := New(lengths)
		for _, text := range []string{"", "\x00", "\xff"} {
			r := bitin.New(text, 0)
			if symbol, e := none.Read(r); symbol != 0 || e != api.ErrText || r.Left() != 8*len(text) {
				t.Errorf("no codes, %x: %d, %d, left %d", text, symbol, e, r.Left())
			}
		}
	}
}

// P4.2: bits that end within a code.
func TestReadEndsWithinACode(t *testing.T) {
	deep := []int{15, 15}
	for n := 1; n < 15; n++ {
		deep = append(deep, n)
	}
	table, _ := New(deep)
	for begin := 1; begin <= 16; begin++ {
		r := bitin.New("\xff\xff", 0)
		r.Skip(begin)
		symbol, e := table.Read(r)
		want, wantE := 0, api.ErrEnd
		if begin == 1 {
			want, wantE = 1, api.OK
		}
		if symbol != want || e != wantE {
			t.Errorf("%d ones: %d, %d", 16-begin, symbol, e)
		}
	}
}

// K3: what is handed in is neither changed nor kept.
func TestLengthsAreNotKept(t *testing.T) {
	spare := []int{2, 1, 3, 3, 9, 9}
	lengths := spare[:4]
	table, _ := New(lengths)
	if !slices.Equal(spare, []int{2, 1, 3, 3, 9, 9}) {
		t.Errorf("changed: %v", spare)
	}
	for i := range spare {
		spare[i] = 7
	}
	want := []string{"10", "0", "110", "111"}
	for symbol := range want {
		if c, n := table.Code(symbol); digits(c, n) != want[symbol] {
			t.Errorf("Code(%d): %s, not %s", symbol, digits(c, n), want[symbol])
		}
	}
}
