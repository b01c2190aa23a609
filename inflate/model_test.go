package inflate

import (
	"strings"
	"sync"
	"testing"

	"cartulary/api"
)

// slowStream reads a stream by the document's words alone, bit by bit; it gives up by a panic with the error.
type slowStream struct {
	bits []int
	at   int
	out  []byte
	most int
}

// slowInflate is the document's Inflate.
func slowInflate(s string, at, most int) (text string, n int, e api.Errno) {
	if at < 0 || at > len(s) || most < 0 || most > 65536 {
		return "", 0, api.ErrArg
	}
	defer func() {
		if x := recover(); x != nil {
			text, n, e = "", 0, x.(api.Errno)
		}
	}()
	d := &slowStream{most: most}
	for i := at; i < len(s); i++ {
		for k := range 8 {
			d.bits = append(d.bits, int(s[i]>>k&1))
		}
	}
	for d.block() {
	}
	return string(d.out), (d.at + 7) / 8, api.OK
}

func (d *slowStream) bit() int {
	if d.at == len(d.bits) {
		panic(api.ErrEnd)
	}
	d.at++
	return d.bits[d.at-1]
}

func (d *slowStream) number(n int) int {
	x := 0
	for k := range n {
		x += d.bit() << k
	}
	return x
}

func (d *slowStream) put(c byte) {
	if len(d.out) == d.most {
		panic(api.ErrBig)
	}
	d.out = append(d.out, c)
}

// block reads one block; is there another one?
func (d *slowStream) block() bool {
	last := d.bit()
	switch d.number(2) {
	case 0:
		d.stored()
	case 1:
		d.symbols(slowFixed())
	case 2:
		d.symbols(d.sets())
	case 3:
		panic(api.ErrText)
	}
	return last == 0
}

func (d *slowStream) stored() {
	for d.at%8 != 0 {
		d.at++
	}
	length := d.number(16)
	if d.number(16) != 65535-length {
		panic(api.ErrText)
	}
	for range length {
		d.put(byte(d.number(8)))
	}
}

// slowSet is a set of codes: each as noughts and ones, with its symbol; and all that a code begins with.
type slowSet struct {
	symbols map[string]int
	begins  map[string]bool
}

// newSlowSet makes the codes of these lengths as layer 4 says it; nil: they are no set.
func newSlowSet(lengths []int) *slowSet {
	set := &slowSet{map[string]int{}, map[string]bool{}}
	next, sum, count := 0, 0, 0
	for n := 1; n <= 15; n++ {
		next *= 2
		for symbol, length := range lengths {
			if length != n {
				continue
			}
			code := ""
			for k := n - 1; k >= 0; k-- {
				set.begins[code] = true
				code += string(rune('0' + next>>k&1))
			}
			set.symbols[code] = symbol
			next++
			count++
			sum += 1 << (15 - n)
		}
	}
	alone := count == 1 && sum == 1<<14
	if sum > 1<<15 || sum < 1<<15 && count > 0 && !alone {
		return nil
	}
	return set
}

func (d *slowStream) symbol(set *slowSet) int {
	code := ""
	for set.begins[code] {
		code += string(rune('0' + d.bit()))
		if symbol, ok := set.symbols[code]; ok {
			return symbol
		}
	}
	panic(api.ErrText)
}

// slowFixed: the fixed sets, made once.
var slowFixed = sync.OnceValues(func() (*slowSet, *slowSet) {
	var lengths, distances []int
	for symbol := 0; symbol <= 287; symbol++ {
		n := 8
		if symbol >= 144 && symbol <= 255 {
			n = 9
		}
		if symbol >= 256 && symbol <= 279 {
			n = 7
		}
		lengths = append(lengths, n)
	}
	for range 32 {
		distances = append(distances, 5)
	}
	return newSlowSet(lengths), newSlowSet(distances)
})

// sets reads the sets of a dynamic block.
func (d *slowStream) sets() (*slowSet, *slowSet) {
	nl := d.number(5) + 257
	nd := d.number(5) + 1
	nc := d.number(4) + 4
	if nl > 286 || nd > 30 {
		panic(api.ErrText)
	}
	order := strings.Fields("16 17 18 0 8 7 9 6 10 5 11 4 12 3 13 2 14 1 15")
	first := make([]int, 19)
	for i := range nc {
		symbol := 0
		for _, c := range order[i] {
			symbol = 10*symbol + int(c-'0')
		}
		first[symbol] = d.number(3)
	}
	set := newSlowSet(first)
	if set == nil {
		panic(api.ErrText)
	}
	var lengths []int
	for len(lengths) < nl+nd {
		again := func(length, times int) {
			for range times {
				lengths = append(lengths, length)
			}
		}
		switch symbol := d.symbol(set); symbol {
		case 16:
			if len(lengths) == 0 {
				panic(api.ErrText)
			}
			again(lengths[len(lengths)-1], 3+d.number(2))
		case 17:
			again(0, 3+d.number(3))
		case 18:
			again(0, 11+d.number(7))
		default:
			again(symbol, 1)
		}
	}
	if len(lengths) > nl+nd {
		panic(api.ErrText)
	}
	literals, distances := newSlowSet(lengths[:nl]), newSlowSet(lengths[nl:])
	if lengths[256] == 0 || literals == nil || distances == nil {
		panic(api.ErrText)
	}
	return literals, distances
}

// The bases and further bits, written out.
var (
	lengthBases  = []int{3, 4, 5, 6, 7, 8, 9, 10, 11, 13, 15, 17, 19, 23, 27, 31, 35, 43, 51, 59, 67, 83, 99, 115, 131, 163, 195, 227, 258}
	lengthBits   = []int{0, 0, 0, 0, 0, 0, 0, 0, 1, 1, 1, 1, 2, 2, 2, 2, 3, 3, 3, 3, 4, 4, 4, 4, 5, 5, 5, 5, 0}
	distanceBase = []int{1, 2, 3, 4, 5, 7, 9, 13, 17, 25, 33, 49, 65, 97, 129, 193, 257, 385, 513, 769, 1025, 1537, 2049, 3073, 4097, 6145, 8193, 12289, 16385, 24577}
	distanceBits = []int{0, 0, 0, 0, 1, 1, 2, 2, 3, 3, 4, 4, 5, 5, 6, 6, 7, 7, 8, 8, 9, 9, 10, 10, 11, 11, 12, 12, 13, 13}
)

// symbols reads what a block says by its sets.
func (d *slowStream) symbols(literals, distances *slowSet) {
	for {
		symbol := d.symbol(literals)
		if symbol == 256 {
			return
		}
		if symbol < 256 {
			d.put(byte(symbol))
			continue
		}
		if symbol > 285 {
			panic(api.ErrText)
		}
		length := lengthBases[symbol-257] + d.number(lengthBits[symbol-257])
		symbol = d.symbol(distances)
		if symbol > 29 {
			panic(api.ErrText)
		}
		distance := distanceBase[symbol] + d.number(distanceBits[symbol])
		if distance > len(d.out) {
			panic(api.ErrText)
		}
		for range length {
			d.put(d.out[len(d.out)-distance])
		}
	}
}

// same holds Inflate against the document's words.
func same(t *testing.T, s string, at, most int) api.Errno {
	t.Helper()
	text, n, e := Inflate(s, at, most)
	wantText, wantN, wantE := slowInflate(s, at, most)
	if text != wantText || n != wantN || e != wantE {
		t.Fatalf("Inflate(%x, %d, %d): %d bytes, %d, %d, not %d bytes, %d, %d", s, at, most, len(text), n, e, len(wantText), wantN, wantE)
	}
	return e
}
