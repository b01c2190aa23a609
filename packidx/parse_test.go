package packidx

import (
	"crypto/sha1"
	"encoding/binary"
	"encoding/hex"
	"math/rand"
	"slices"
	"strconv"
	"strings"
	"testing"

	"cartulary/api"
)

// model: Parse by the words of the document.
func model(s string) (rows []Row, sum string, e api.Errno) {
	if len(s) < 1072 {
		return nil, "", api.ErrEnd
	}
	if s[:8] != "\xff\x74\x4f\x63\x00\x00\x00\x02" {
		return nil, "", api.ErrText
	}
	b := []byte(s)
	four := func(at int) int { return int(binary.BigEndian.Uint32(b[at:])) }
	for i := 1; i < 256; i++ {
		if four(8+4*i) < four(8+4*(i-1)) {
			return nil, "", api.ErrText
		}
	}
	n := four(8 + 4*255)
	if n > 1000 {
		return nil, "", api.ErrBig
	}
	far := len(s) - 1072 - 28*n
	if far < 0 {
		return nil, "", api.ErrEnd
	}
	if far%8 != 0 {
		return nil, "", api.ErrText
	}
	for i := range n {
		name := b[1032+20*i:][:20]
		if i > 0 && string(name) <= string(b[1032+20*(i-1):][:20]) {
			return nil, "", api.ErrText
		}
		// Fewer rows than i have a lesser first byte, or just as many; more than i have one that is at most this.
		lesser, atMost := 0, four(8+4*int(name[0]))
		if name[0] > 0 {
			lesser = four(8 + 4*int(name[0]) - 4)
		}
		if lesser > i || atMost <= i {
			return nil, "", api.ErrText
		}
		place := uint64(four(1032 + 24*n + 4*i))
		if place >= 0x80000000 {
			if place-0x80000000 >= uint64(far/8) {
				return nil, "", api.ErrText
			}
			place = binary.BigEndian.Uint64(b[1032+28*n+8*int(place-0x80000000):])
		}
		if place > 1<<40 {
			return nil, "", api.ErrBig
		}
		rows = append(rows, Row{hex.EncodeToString(name), int(place), uint32(four(1032 + 20*n + 4*i))})
	}
	if own := sha1.Sum(b[:len(b)-20]); s[len(s)-20:] != string(own[:]) {
		return nil, "", api.ErrSum
	}
	return rows, hex.EncodeToString(b[len(b)-40 : len(b)-20]), api.OK
}

// agrees holds Parse against the model.
func agrees(t *testing.T, s string) api.Errno {
	t.Helper()
	rows, sum, e := model(s)
	if e != api.OK {
		parses(t, s, e)
		return e
	}
	isRead(t, s, rows, sum)
	return e
}

// P12.1: an index has at least 1072 bytes, whatever they are.
func TestParseShort(t *testing.T) {
	whole := partsOf(nil, someSum, 0).text()
	if len(whole) != 1072 {
		t.Fatalf("%d bytes", len(whole))
	}
	isRead(t, whole, nil, someSum)
	more := partsOf(someRows(9), someSum, 0).text()
	for n := range 1072 {
		parses(t, whole[:n], api.ErrEnd)
		parses(t, more[:n], api.ErrEnd)
		parses(t, strings.Repeat("z", n), api.ErrEnd)
	}
	parses(t, strings.Repeat("z", 1072), api.ErrText)
	parses(t, strings.Repeat("\x00", 5000), api.ErrText)
}

// P12.1: other beginnings, with a right sum.
func TestParseBeginning(t *testing.T) {
	p := partsOf(someRows(3), someSum, 1<<31)
	start := p.start
	for place := range 8 {
		for c := range 256 {
			if start[place] == byte(c) {
				continue
			}
			p.start = start[:place] + string([]byte{byte(c)}) + start[place+1:]
			parses(t, p.text(), api.ErrText)
		}
	}
	// Ahead of all that stands behind it.
	p.start = "\xfftOc\x00\x00\x00\x01"
	p.ends[255] = 1 << 31
	parses(t, p.text(), api.ErrText)
}

// P12.1: one of the 256 numbers is below the one ahead, anywhere, and by however much.
func TestParseFalling(t *testing.T) {
	rows := []Row{{Id: strings.Repeat("0", 40), At: 1}, {Id: strings.Repeat("0", 39) + "1", At: 2}}
	good := partsOf(rows, someSum, 1<<31)
	isRead(t, good.text(), rows, someSum)
	for i := 1; i < 256; i++ {
		for _, n := range []uint32{0, 1} {
			p := good
			p.ends[i] = n
			parses(t, p.text(), api.ErrText)
		}
		for _, n := range []uint32{3, 1001, 1 << 31, 1<<32 - 1} {
			p := good
			p.ends[i-1] = n
			parses(t, p.text(), api.ErrText)
			// Ahead of too many rows, and of bytes that are wanting.
			if i < 255 {
				p.ends[255] = 1<<32 - 1
				parses(t, p.text(), api.ErrText)
			}
		}
	}
}

// P12.1: as many rows as may be, and more.
func TestParseMost(t *testing.T) {
	rows := sorted(someRows(1001))
	isRead(t, partsOf(rows[:1000], someSum, 1<<31).text(), rows[:1000], someSum)
	isRead(t, partsOf(rows[:1000], someSum, 0).text(), rows[:1000], someSum)
	parses(t, partsOf(rows, someSum, 1<<31).text(), api.ErrBig)
	for _, n := range []uint32{1001, 1002, 1 << 16, 1 << 31, 1<<31 + 1, 1<<32 - 1} {
		p := partsOf(nil, someSum, 0)
		p.ends[255] = n
		parses(t, p.text(), api.ErrBig)
		// Ahead of bytes that don't fill a far place, and of a sum that is spoiled.
		parses(t, p.text()+"abc", api.ErrBig)
	}
	p := partsOf(nil, someSum, 0)
	p.ends[255] = 1000
	parses(t, p.text(), api.ErrEnd)
}

// P12.1: fewer bytes than the rows need.
func TestParseEnd(t *testing.T) {
	for n := 1; n < 6; n++ {
		s := partsOf(someRows(n), someSum, 1<<31).text()
		if len(s) != 1072+28*n {
			t.Fatalf("%d bytes", len(s))
		}
		for cut := 1; cut <= 28*n; cut++ {
			parses(t, s[:len(s)-cut], api.ErrEnd)
			parses(t, summed(s[:len(s)-cut-20]), api.ErrEnd)
		}
	}
	// Ahead of names that aren't right.
	p := partsOf(someRows(3), someSum, 1<<31)
	p.names[2] = p.names[0]
	parses(t, summed(p.text()[:1072+27]), api.ErrEnd)
}

// P12.1: what stands between the places and the last 40 bytes is a multiple of eight bytes.
func TestParseMultiple(t *testing.T) {
	for _, rows := range [][]Row{nil, sorted(someRows(1)), sorted(someRows(5))} {
		s := partsOf(rows, someSum, 1<<31).text()
		body := s[:len(s)-40]
		sum := s[len(s)-40 : len(s)-20]
		for n := range 60 {
			longer := summed(body + strings.Repeat("\xff", n) + sum)
			if n%8 == 0 {
				// Far places that no row asks for may be anything.
				isRead(t, longer, rows, someSum)
				parses(t, longer[:len(longer)-1]+"\x00", api.ErrSum)
				continue
			}
			parses(t, longer, api.ErrText)
			parses(t, longer[:len(longer)-1]+"\x00", api.ErrText)
		}
	}
	// Ahead of a row's own errors.
	p := partsOf([]Row{{Id: someSum, At: 1 << 40}}, someSum, 0)
	p.far[0]++
	s := p.text()
	parses(t, s, api.ErrBig)
	parses(t, summed(s[:len(s)-20]+"z"), api.ErrText)
}

// P12.1: names that stand twice, or that fall.
func TestParseNames(t *testing.T) {
	rows := sorted(someRows(40))
	for i := 1; i < len(rows); i++ {
		p := partsOf(rows, someSum, 1<<31)
		p.names[i] = p.names[i-1]
		p.ends = endsBy(p.names)
		parses(t, p.text(), api.ErrText)
		p = partsOf(rows, someSum, 1<<31)
		p.names[i], p.names[i-1] = p.names[i-1], p.names[i]
		parses(t, p.text(), api.ErrText)
	}
	// Names that differ at any one digit, of one first byte or of two.
	for place := range 40 {
		low := someSum[:place] + "3" + someSum[place+1:]
		high := someSum[:place] + "8" + someSum[place+1:]
		rows := []Row{{Id: low, At: 1}, {Id: high, At: 2}}
		p := partsOf(rows, someSum, 1<<31)
		isRead(t, p.text(), rows, someSum)
		p.names[0], p.names[1] = high, low
		parses(t, p.text(), api.ErrText)
	}
	// A byte from 128 on is above those below.
	rows = []Row{{Id: "7f" + someSum[2:]}, {Id: "80" + someSum[2:]}, {Id: "ff" + someSum[2:]}}
	isRead(t, partsOf(rows, someSum, 1<<31).text(), rows, someSum)
}

// P12.1: names that don't stand where the 256 numbers say.
func TestParseNumbers(t *testing.T) {
	rows := sorted(someRows(12))
	rows = append([]Row{{Id: strings.Repeat("0", 40)}}, rows...)
	rows = append(rows, Row{Id: strings.Repeat("f", 40)})
	good := partsOf(rows, someSum, 1<<31)
	isRead(t, good.text(), rows, someSum)
	wrong := 0
	for i := range 255 {
		for _, n := range []int{-1, 1} {
			p := good
			p.ends[i] = uint32(int(p.ends[i]) + n)
			// It rises no more, or a name stands at the wrong number.
			parses(t, p.text(), api.ErrText)
			wrong++
		}
	}
	if wrong != 510 {
		t.Errorf("%d", wrong)
	}
	// A row said to be of another first byte.
	for _, first := range []string{"00", "01", "02", "40", "7f", "80", "fe", "ff"} {
		one := []Row{{Id: first + someSum[2:], At: 9}}
		own, _ := strconv.ParseUint(first, 16, 8)
		for i := range 256 {
			p := partsOf(one, someSum, 1<<31)
			for k := range p.ends {
				p.ends[k] = 0
				if k >= i {
					p.ends[k] = 1
				}
			}
			if i == int(own) {
				isRead(t, p.text(), one, someSum)
			} else {
				parses(t, p.text(), api.ErrText)
			}
		}
	}
}

// P12.1: places near and far.
func TestParsePlaces(t *testing.T) {
	p := partsOf([]Row{{Id: someSum, Crc: 1<<32 - 1}}, someSum, 1<<31)
	at := func(near uint32, far ...uint64) string {
		q := p
		q.places, q.far = []uint32{near}, far
		return q.text()
	}
	read := func(s string, place int) {
		t.Helper()
		isRead(t, s, []Row{{Id: someSum, At: place, Crc: 1<<32 - 1}}, someSum)
	}
	for _, near := range []uint32{0, 1, 12, 255, 256, 65536, 1 << 24, 1<<31 - 2, 1<<31 - 1} {
		read(at(near), int(near))
		read(at(near, 5), int(near))
	}
	for _, far := range []uint64{0, 1, 1<<31 - 1, 1 << 31, 1<<32 - 1, 1 << 32, 1<<40 - 1, 1 << 40} {
		read(at(1<<31, far), int(far))
		read(at(1<<31+2, 7, 1<<63, far, 1<<41), int(far))
	}
	for _, far := range []uint64{1<<40 + 1, 1 << 41, 1 << 48, 1<<63 - 1, 1 << 63, 1<<63 + 12, 1<<64 - 1} {
		parses(t, at(1<<31, far), api.ErrBig)
		parses(t, at(1<<31+1, 12, far), api.ErrBig)
	}
	for _, near := range []uint32{1 << 31, 1<<31 + 1, 1<<31 + 2, 3 << 30, 1<<32 - 1} {
		parses(t, at(near), api.ErrText)
	}
	for _, near := range []uint32{1<<31 + 2, 1<<31 + 3, 1<<31 + 16, 1<<32 - 1} {
		parses(t, at(near, 1, 2), api.ErrText)
	}
}

// P12.1: several rows may have one far place, and one place.
func TestParseSamePlace(t *testing.T) {
	rows := []Row{{Id: nameOf(1), At: 99}, {Id: nameOf(2), At: 99}, {Id: nameOf(3), At: 99}}
	p := partsOf(rows, someSum, 1<<31)
	isRead(t, p.text(), sorted(rows), someSum)
	p.places, p.far = []uint32{1 << 31, 99, 1 << 31}, []uint64{99}
	isRead(t, p.text(), sorted(rows), someSum)
}

// P12.1: row by row, the first error counts; the sum is asked last.
func TestParseOrder(t *testing.T) {
	spoil := map[api.Errno][]func(p *parts, i int){
		api.ErrText: {
			func(p *parts, i int) { p.names[i] = p.names[i-1] },
			func(p *parts, i int) { p.places[i] = 1<<31 + 1 },
			func(p *parts, i int) { p.names[i] = "ff" + p.names[i][2:] },
		},
		api.ErrBig: {func(p *parts, i int) { p.places[i] = 1 << 31 }},
	}
	for first, ones := range spoil {
		for _, one := range ones {
			for _, others := range spoil {
				for _, other := range others {
					for i := 1; i < 8; i++ {
						p := partsOf(someRows(9), someSum, 1<<31)
						p.far = []uint64{1<<40 + 1}
						isRead(t, p.text(), sorted(someRows(9)), someSum)
						other(&p, i+1)
						one(&p, i)
						s := p.text()
						parses(t, s, first)
						parses(t, s[:len(s)-1]+"z", first)
					}
				}
			}
		}
	}
	// Of one row: its name ahead of its place.
	p := partsOf(someRows(2), someSum, 1<<31)
	p.far = []uint64{1 << 50}
	p.places[1] = 1 << 31
	parses(t, p.text(), api.ErrBig)
	p.names[1] = p.names[0]
	parses(t, p.text(), api.ErrText)
}

// P12.1: any bit turned.
func TestParseTurned(t *testing.T) {
	rows := []Row{{Id: nameOf(1), At: 12, Crc: 1}, {Id: nameOf(2), At: 1 << 33, Crc: 2}, {Id: nameOf(3), At: 1<<31 - 1, Crc: 3}}
	s := partsOf(rows, someSum, 1<<31).text()
	isRead(t, s, sorted(rows), someSum)
	seen := map[api.Errno]int{}
	for i := range 8 * len(s) {
		b := []byte(s)
		b[i/8] ^= 1 << (i % 8)
		e := agrees(t, string(b))
		if e == api.OK || i/8 >= len(s)-40 && e != api.ErrSum {
			t.Errorf("bit %d: %d", i, e)
		}
		seen[e]++
		agrees(t, summed(string(b[:len(b)-20])))
	}
	if seen[api.ErrSum] < 300 || seen[api.ErrText] < 300 || seen[api.ErrBig] < 10 {
		t.Errorf("%v", seen)
	}
	for n := range len(s) {
		agrees(t, s[:n])
		agrees(t, summed(s[:n]))
		agrees(t, s+s[:n])
	}
}

// P12.1: parts that anyone might have chosen, against the document's words.
func TestParseAgainstModel(t *testing.T) {
	random := rand.New(rand.NewSource(12))
	seen := map[api.Errno]int{}
	for range 4000 {
		var rows []Row
		for i := range random.Intn(12) {
			id := nameOf(random.Intn(1000))
			if random.Intn(2) == 0 {
				id = "a" + string("0123456789abcdef"[random.Intn(16)]) + nameOf(i)[2:]
			}
			rows = append(rows, Row{Id: id, At: random.Intn(1 << random.Intn(41)), Crc: random.Uint32()})
		}
		p := partsOf(rows, nameOf(random.Intn(99)), random.Intn(1<<random.Intn(40)))
		for range random.Intn(3) {
			spoilPart(random, &p)
		}
		s := p.text()
		switch random.Intn(12) {
		case 0:
			s = s[:len(s)-random.Intn(60)]
		case 1:
			s = s[:len(s)-1] + "z"
		case 2:
			s = summed(s[:len(s)-20] + strings.Repeat("z", random.Intn(20)))
		}
		seen[agrees(t, s)]++
	}
	for _, e := range []api.Errno{api.OK, api.ErrEnd, api.ErrText, api.ErrBig, api.ErrSum} {
		if seen[e] < 40 {
			t.Errorf("error %d came %d times: %v", e, seen[e], seen)
		}
	}
}

// spoilPart changes one of the parts.
func spoilPart(random *rand.Rand, p *parts) {
	n := len(p.names)
	switch kind := random.Intn(7); {
	case kind == 0:
		p.ends[random.Intn(256)] = uint32(random.Intn(n + 2))
	case kind == 1:
		p.ends[255] = uint32(random.Intn(1 << random.Intn(32)))
	case kind == 2 && n > 0:
		p.names[random.Intn(n)] = nameOf(random.Intn(99))
	case kind == 3 && n > 0:
		p.places[random.Intn(n)] = 1<<31 + uint32(random.Intn(n+1))
	case kind == 4 && len(p.far) > 0:
		p.far[random.Intn(len(p.far))] = random.Uint64() >> random.Intn(64)
	case kind == 5 && len(p.far) > 0:
		p.far = slices.Delete(p.far, 0, 1)
	case kind == 6:
		p.far = append(p.far, random.Uint64())
	}
}
