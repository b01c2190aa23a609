package bitin

import (
	"math"
	"math/rand"
	"testing"
)

// slowWriter is the document's Writer, bit by bit.
type slowWriter []uint32

func (w *slowWriter) put(x uint32, n int) {
	if n < 0 || n > 32 {
		return
	}
	for k := 0; k < n; k++ {
		*w = append(*w, x>>k&1)
	}
}

func (w *slowWriter) putCode(x uint32, n int) {
	if n < 1 || n > 32 {
		return
	}
	for k := n - 1; k >= 0; k-- {
		*w = append(*w, x>>k&1)
	}
}

func (w *slowWriter) align() {
	for len(*w)%8 != 0 {
		*w = append(*w, 0)
	}
}

func (w *slowWriter) putBytes(s string) {
	w.align()
	*w = append(*w, bitsOf(s)...)
}

func (w slowWriter) text() string {
	filled := make([]byte, (len(w)+7)/8)
	for i, bit := range w {
		filled[i/8] |= byte(bit << (i % 8))
	}
	return string(filled)
}

// P3.2: all rows of calls are answered as the document's Writer answers them.
func TestWriterRowsOfCalls(t *testing.T) {
	random := rand.New(rand.NewSource(5))
	for round := 0; round < 4000; round++ {
		var w Writer
		var slow slowWriter
		for k := 0; k < 25; k++ {
			x, n := random.Uint32(), random.Intn(40)-3
			switch random.Intn(4) {
			case 0:
				w.Bits(x, n)
				slow.put(x, n)
			case 1:
				w.Code(x, n)
				slow.putCode(x, n)
			case 2:
				w.Align()
				slow.align()
			case 3:
				s := "\xff\x00a"[:random.Intn(4)]
				w.Bytes(s)
				slow.putBytes(s)
			}
			if w.Text() != slow.text() {
				t.Fatalf("round %d, call %d: %x, not %x", round, k, w.Text(), slow.text())
			}
		}
	}
}

// P3.2: every width at every place within a byte, with bits above that don't count.
func TestWriterEveryWidthAtEveryPlace(t *testing.T) {
	for place := 0; place < 8; place++ {
		for n := -2; n <= 34; n++ {
			for _, x := range []uint32{0, 1, math.MaxUint32, 0x80000001, 0x9d4b2f17} {
				var a, b Writer
				var slowA, slowB slowWriter
				a.Bits(0, place)
				b.Bits(0, place)
				slowA.put(0, place)
				slowB.put(0, place)
				a.Bits(x, n)
				slowA.put(x, n)
				b.Code(x, n)
				slowB.putCode(x, n)
				a.Bits(1, 1)
				slowA.put(1, 1)
				b.Bits(1, 1)
				slowB.put(1, 1)
				if a.Text() != slowA.text() {
					t.Errorf("Bits(%x, %d) at %d: %x", x, n, place, a.Text())
				}
				if b.Text() != slowB.text() {
					t.Errorf("Code(%x, %d) at %d: %x", x, n, place, b.Text())
				}
			}
		}
	}
}

// P3.2: the zero Writer has no bits, and noughts of no bits are none.
func TestZeroWriter(t *testing.T) {
	var w Writer
	if w.Text() != "" {
		t.Errorf("Text: %x", w.Text())
	}
	w.Align()
	w.Bytes("")
	w.Bits(math.MaxUint32, 0)
	w.Code(math.MaxUint32, 0)
	if w.Text() != "" {
		t.Errorf("behind nothing: %x", w.Text())
	}
}

// P3.2: counts that aren't any put nothing.
func TestWriterWrongCounts(t *testing.T) {
	for _, n := range []int{math.MinInt, -1, 33, 40, 64, math.MaxInt} {
		var w Writer
		w.Bits(1, 3)
		w.Bits(math.MaxUint32, n)
		w.Code(math.MaxUint32, n)
		w.Bits(1, 1)
		if w.Text() != "\x09" {
			t.Errorf("%d: %x", n, w.Text())
		}
	}
}

// P3.2: Text puts nothing, and what it told stays as it was.
func TestWriterTextInTheMidst(t *testing.T) {
	var w Writer
	w.Bits(1, 1)
	first := w.Text()
	w.Bits(1, 1)
	second := w.Text()
	w.Align()
	w.Align()
	w.Bytes("ab")
	if first != "\x01" || second != "\x03" || w.Text() != "\x03ab" {
		t.Errorf("%x, %x, %x", first, second, w.Text())
	}
}

// The document's second example.
func TestWriterExample(t *testing.T) {
	var w Writer
	w.Bits(5, 3)
	w.Code(6, 3)
	if w.Text() != "\x1d" {
		t.Errorf("Text: %x", w.Text())
	}
	w.Align()
	w.Bytes("a")
	if w.Text() != "\x1da" {
		t.Errorf("Bytes: %x", w.Text())
	}
}

// P3.3: what was put is taken again, Bits by Bits and Bytes by Bytes.
func TestPutAndTaken(t *testing.T) {
	random := rand.New(rand.NewSource(7))
	type piece struct {
		x     uint32
		n     int
		s     string
		bytes bool
	}
	for round := 0; round < 3000; round++ {
		var w Writer
		pieces := make([]piece, random.Intn(20))
		for i := range pieces {
			p := piece{x: random.Uint32(), n: random.Intn(33), s: "\x80bits"[:random.Intn(6)], bytes: random.Intn(3) == 0}
			pieces[i] = p
			if p.bytes {
				w.Bytes(p.s)
			} else {
				w.Bits(p.x, p.n)
			}
		}
		r := New("ab"+w.Text(), 2)
		for _, p := range pieces {
			if p.bytes {
				if s, ok := r.Bytes(len(p.s)); s != p.s || !ok {
					t.Fatalf("Bytes(%d): %q, %v, not %q", len(p.s), s, ok, p.s)
				}
				continue
			}
			want := uint32(uint64(p.x) & (1<<p.n - 1))
			if x, ok := r.Bits(p.n); x != want || !ok {
				t.Fatalf("Bits(%d): %x, %v, not %x", p.n, x, ok, want)
			}
		}
		if r.Left() >= 8 {
			t.Fatalf("%d bits are left", r.Left())
		}
	}
}
