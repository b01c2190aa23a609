package bitin

import (
	"math"
	"math/rand"
	"testing"
)

// bitsOf lays a text's bits out one by one, as the document orders them.
func bitsOf(s string) []uint32 {
	var list []uint32
	for i := 0; i < len(s); i++ {
		for k := 0; k < 8; k++ {
			list = append(list, uint32(s[i]>>k)&1)
		}
	}
	return list
}

// slowReader is the document's Reader, bit by bit.
type slowReader struct {
	text  string
	bits  []uint32
	taken int
}

func slowNew(s string, at int) *slowReader {
	for at > 0 && s != "" {
		s = s[1:]
		at--
	}
	return &slowReader{text: s, bits: bitsOf(s)}
}

func (r *slowReader) peek(n int) (uint32, int) {
	if n < 0 || n > 32 {
		return 0, 0
	}
	x, got := uint32(0), 0
	for got < n && r.taken+got < len(r.bits) {
		x |= r.bits[r.taken+got] << got
		got++
	}
	return x, got
}

func (r *slowReader) skip(n int) bool {
	if n < 0 || n > 32 || r.taken+n > len(r.bits) {
		return false
	}
	r.taken += n
	return true
}

func (r *slowReader) take(n int) (uint32, bool) {
	x, _ := r.peek(n)
	if !r.skip(n) {
		return 0, false
	}
	return x, true
}

func (r *slowReader) align() {
	for r.taken%8 != 0 {
		r.taken++
	}
}

func (r *slowReader) takeBytes(n int) (string, bool) {
	r.align()
	if n < 0 || n > len(r.text)-r.taken/8 {
		return "", false
	}
	s := r.text[r.taken/8:][:n]
	r.taken += 8 * n
	return s, true
}

func (r *slowReader) used() int {
	used := 0
	for i := range len(r.text) {
		if 8*i < r.taken {
			used++
		}
	}
	return used
}

func (r *slowReader) left() int {
	return len(r.bits) - r.taken
}

// step makes one call of both readers and holds the answers against each other.
func step(t *testing.T, r *Reader, slow *slowReader, call, n int) {
	t.Helper()
	switch call {
	case 0:
		x, got := r.Peek(n)
		if y, want := slow.peek(n); x != y || got != want {
			t.Fatalf("Peek(%d): %x, %d, not %x, %d", n, x, got, y, want)
		}
	case 1:
		if ok, want := r.Skip(n), slow.skip(n); ok != want {
			t.Fatalf("Skip(%d): %v", n, ok)
		}
	case 2:
		x, ok := r.Bits(n)
		if y, want := slow.take(n); x != y || ok != want {
			t.Fatalf("Bits(%d): %x, %v, not %x, %v", n, x, ok, y, want)
		}
	case 3:
		r.Align()
		slow.align()
	case 4:
		s, ok := r.Bytes(n)
		if u, want := slow.takeBytes(n); s != u || ok != want {
			t.Fatalf("Bytes(%d): %q, %v, not %q, %v", n, s, ok, u, want)
		}
	}
	if r.Used() != slow.used() || r.Left() != slow.left() {
		t.Fatalf("behind call %d(%d): used %d, left %d, not %d, %d", call, n, r.Used(), r.Left(), slow.used(), slow.left())
	}
}

// P3.1: all rows of calls are answered as the document's Reader answers them.
func TestReaderRowsOfCalls(t *testing.T) {
	random := rand.New(rand.NewSource(3))
	for round := 0; round < 4000; round++ {
		text := make([]byte, random.Intn(30))
		random.Read(text)
		at := random.Intn(len(text)+6) - 3
		r, slow := New(string(text), at), slowNew(string(text), at)
		for k := 0; k < 25; k++ {
			n := random.Intn(40) - 3
			call := random.Intn(5)
			if call == 4 {
				n = random.Intn(6) - 1
			}
			step(t, r, slow, call, n)
		}
	}
}

// P3.1: every width from every place within a byte, up to the end.
func TestReaderEveryWidthAtEveryPlace(t *testing.T) {
	text := "\x9d\x42\xff\x00\x81\x7e\xc3"
	for place := 0; place <= 8*len(text); place++ {
		for n := -2; n <= 34; n++ {
			for call := 0; call <= 2; call++ {
				r, slow := New(text, 0), slowNew(text, 0)
				for k := 0; k < place; k++ {
					step(t, r, slow, 1, 1)
				}
				step(t, r, slow, call, n)
				step(t, r, slow, 2, 3)
			}
		}
	}
}

// P3.1: where a Reader begins.
func TestReaderBegins(t *testing.T) {
	for _, c := range []struct {
		at   int
		want string
	}{
		{math.MinInt, "abc"}, {-1, "abc"}, {0, "abc"}, {1, "bc"}, {2, "c"}, {3, ""}, {4, ""}, {math.MaxInt, ""},
	} {
		r := New("abc", c.at)
		if r.Left() != 8*len(c.want) || r.Used() != 0 {
			t.Errorf("New(abc, %d): left %d, used %d", c.at, r.Left(), r.Used())
		}
		if s, ok := r.Bytes(len(c.want)); s != c.want || !ok {
			t.Errorf("New(abc, %d): %q, %v", c.at, s, ok)
		}
		if r.Left() != 0 || r.Used() != len(c.want) {
			t.Errorf("New(abc, %d), at its end: left %d, used %d", c.at, r.Left(), r.Used())
		}
	}
}

// P3.1: the zero Reader has no bytes.
func TestZeroReader(t *testing.T) {
	var r Reader
	if x, n := r.Peek(32); x != 0 || n != 0 {
		t.Errorf("Peek: %d, %d", x, n)
	}
	if _, ok := r.Bits(1); ok || r.Skip(1) {
		t.Error("a bit of none")
	}
	if x, ok := r.Bits(0); x != 0 || !ok || !r.Skip(0) {
		t.Error("no bit of none")
	}
	r.Align()
	if s, ok := r.Bytes(0); s != "" || !ok {
		t.Error("no byte of none")
	}
	if s, ok := r.Bytes(1); s != "" || ok {
		t.Error("a byte of none")
	}
	if r.Used() != 0 || r.Left() != 0 {
		t.Errorf("used %d, left %d", r.Used(), r.Left())
	}
}

// P3.1: counts that aren't any, wherever they come, take nothing.
func TestReaderWrongCounts(t *testing.T) {
	for _, n := range []int{math.MinInt, -33, -1, 33, 64, math.MaxInt - 7, math.MaxInt} {
		r := New("abcdefghij", 0)
		r.Skip(5)
		if x, got := r.Peek(n); x != 0 || got != 0 {
			t.Errorf("Peek(%d): %d, %d", n, x, got)
		}
		if r.Skip(n) {
			t.Errorf("Skip(%d)", n)
		}
		if x, ok := r.Bits(n); x != 0 || ok {
			t.Errorf("Bits(%d): %d, %v", n, x, ok)
		}
		if r.Left() != 75 || r.Used() != 1 {
			t.Errorf("behind %d: left %d, used %d", n, r.Left(), r.Used())
		}
		if s, ok := r.Bytes(n); s != "" || ok {
			t.Errorf("Bytes(%d): %q, %v", n, s, ok)
		}
		if r.Left() != 72 || r.Used() != 1 {
			t.Errorf("behind Bytes(%d): left %d, used %d", n, r.Left(), r.Used())
		}
	}
}

// P3.1: where 8 times n wraps round to a small count, there are not so many bytes either.
func TestReaderBytesThatWrapRound(t *testing.T) {
	for _, n := range []int{1 << 61, 1<<61 + 1, 1 << 62, 1<<62 + 1} {
		r := New("abc", 0)
		if s, ok := r.Bytes(n); s != "" || ok || r.Left() != 24 {
			t.Errorf("Bytes(%d): %q, %v, left %d", n, s, ok, r.Left())
		}
	}
}

// P3.1: Align takes the rest of a begun byte, and of no other.
func TestReaderAlign(t *testing.T) {
	r := New("\xff\x01\x02", 0)
	r.Align()
	if r.Left() != 24 || r.Used() != 0 {
		t.Errorf("at the beginning: left %d, used %d", r.Left(), r.Used())
	}
	r.Skip(1)
	if r.Used() != 1 {
		t.Errorf("one bit: used %d", r.Used())
	}
	r.Align()
	r.Align()
	if x, _ := r.Peek(8); x != 1 || r.Left() != 16 || r.Used() != 1 {
		t.Errorf("behind one bit: %d, left %d, used %d", x, r.Left(), r.Used())
	}
	r.Skip(8)
	r.Align()
	if r.Left() != 8 || r.Used() != 2 {
		t.Errorf("behind a whole byte: left %d, used %d", r.Left(), r.Used())
	}
	r.Skip(1)
	if s, ok := r.Bytes(1); s != "" || ok || r.Left() != 0 || r.Used() != 3 {
		t.Errorf("Bytes within the last byte: %q, %v, left %d, used %d", s, ok, r.Left(), r.Used())
	}
}

// The document's first example.
func TestReaderExample(t *testing.T) {
	r := New("\xa5\x0f", 0)
	if x, ok := r.Bits(4); x != 5 || !ok {
		t.Errorf("Bits(4): %x, %v", x, ok)
	}
	if x, ok := r.Bits(8); x != 0xfa || !ok {
		t.Errorf("Bits(8): %x, %v", x, ok)
	}
	if x, n := r.Peek(8); x != 0 || n != 4 {
		t.Errorf("Peek(8): %x, %d", x, n)
	}
	if r.Left() != 4 || r.Used() != 2 {
		t.Errorf("left %d, used %d", r.Left(), r.Used())
	}
	if x, ok := r.Bits(5); x != 0 || ok {
		t.Errorf("Bits(5): %x, %v", x, ok)
	}
}
