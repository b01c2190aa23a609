package inflate

import (
	"math/rand"
	"testing"

	"cartulary/api"
)

// anyFirst: lengths of a first set in which each symbol has a code: thirteen of 4 bits, six of 5.
func anyFirst(random *rand.Rand) []int {
	lengths := make([]int, 19)
	for k, symbol := range random.Perm(19) {
		lengths[symbol] = 4 + k/13
	}
	return lengths
}

// inOrder: a first set's lengths as they stand in a stream.
func inOrder(bySymbol []int) []int {
	var list []int
	for _, symbol := range []int{16, 17, 18, 0, 8, 7, 9, 6, 10, 5, 11, 4, 12, 3, 13, 2, 14, 1, 15} {
		list = append(list, bySymbol[symbol])
	}
	return list
}

// anyLengths: lengths of a set of n symbols, of which symbol must has a code: codes are split at random, up to 15 bits.
func anyLengths(random *rand.Rand, n, must int) []int {
	split := []int{1, 1}
	for k := random.Intn(3 * n); k > 0 && len(split) < n; k-- {
		i := random.Intn(len(split))
		if random.Intn(3) == 0 {
			i = len(split) - 1
		}
		if split[i] < 15 {
			split[i]++
			split = append(split, split[i])
		}
	}
	lengths := make([]int, n)
	places := random.Perm(n)
	for i, length := range split {
		lengths[places[i]] = length
	}
	if lengths[must] == 0 {
		lengths[must], lengths[places[0]] = lengths[places[0]], 0
	}
	return lengths
}

// run: how many lengths from a place on are alike.
func run(lengths []int, at int) int {
	n := 1
	for at+n < len(lengths) && lengths[at+n] == lengths[at] {
		n++
	}
	return n
}

// putLengths puts lengths by the first set, with repeats here and there.
func (m *maker) putLengths(t *testing.T, random *rand.Rand, first, lengths []int) {
	for at := 0; at < len(lengths); {
		n := run(lengths, at)
		switch {
		case lengths[at] == 0 && n >= 11 && random.Intn(2) == 0:
			n = min(n, 11+random.Intn(128))
			m.by(t, first, 18).number(n-11, 7)
		case lengths[at] == 0 && n >= 3 && random.Intn(2) == 0:
			n = min(n, 3+random.Intn(8))
			m.by(t, first, 17).number(n-3, 3)
		case at > 0 && lengths[at-1] == lengths[at] && n >= 3 && random.Intn(2) == 0:
			n = min(n, 3+random.Intn(4))
			m.by(t, first, 16).number(n-3, 2)
		default:
			n = 1
			m.by(t, first, lengths[at])
		}
		at += n
	}
}

// putSymbols puts symbols at random up to the end of the block, and says what they add to the text.
func (m *maker) putSymbols(t *testing.T, random *rand.Rand, literals, distances []int, text string) string {
	for k := random.Intn(300); k > 0; k-- {
		symbol := random.Intn(len(literals))
		if random.Intn(3) == 0 && len(literals) > 257 {
			symbol = 257 + random.Intn(len(literals)-257)
		}
		if literals[symbol] == 0 || symbol == 256 {
			continue
		}
		if symbol < 256 {
			m.by(t, literals, symbol)
			text += string([]byte{byte(symbol)})
			continue
		}
		far := random.Intn(len(distances))
		further := random.Intn(1 << distanceBits[far])
		distance := distanceBase[far] + further
		if distances[far] == 0 || distance > len(text) {
			continue
		}
		more := random.Intn(1 << lengthBits[symbol-257])
		m.by(t, literals, symbol).number(more, lengthBits[symbol-257])
		m.by(t, distances, far).number(further, distanceBits[far])
		for range lengthBases[symbol-257] + more {
			text += text[len(text)-distance:][:1]
		}
	}
	m.by(t, literals, 256)
	return text
}

// anyDynamic: a stream of one to three dynamic blocks at random, and what it says.
func anyDynamic(t *testing.T, random *rand.Rand) (string, string) {
	m, text := &maker{}, ""
	blocks := 1 + random.Intn(3)
	for block := range blocks {
		nl, nd := 257+random.Intn(30), 2+random.Intn(29)
		first := anyFirst(random)
		literals := anyLengths(random, nl, 256)
		distances := anyLengths(random, nd, random.Intn(nd))
		last := 0
		if block == blocks-1 {
			last = 1
		}
		m.number(last, 1).number(2, 2).number(nl-257, 5).number(nd-1, 5).number(15, 4)
		for _, n := range inOrder(first) {
			m.number(n, 3)
		}
		all := append(append([]int{}, literals...), distances...)
		m.putLengths(t, random, first, all)
		text = m.putSymbols(t, random, literals, distances, text)
	}
	return m.Text(), text
}

// P5.1: dynamic blocks with codes of all lengths and repeats of all kinds, as they are, cut, and with bits turned.
func TestDynamicBlocks(t *testing.T) {
	random := rand.New(rand.NewSource(19))
	seen := map[api.Errno]int{}
	for range 150 {
		s, text := anyDynamic(t, random)
		if len(text) > api.MaxBytes {
			t.Fatalf("%d bytes", len(text))
		}
		answers(t, "dynamic", s, len(text), text, api.OK)
		for range 3 {
			seen[same(t, s[:random.Intn(len(s))], 0, random.Intn(len(text)+1))]++
			spoilt := []byte(s)
			spoilt[random.Intn(len(s))] ^= 1 << random.Intn(8)
			seen[same(t, string(spoilt), 0, len(text))]++
		}
	}
	for _, e := range []api.Errno{api.ErrBig, api.ErrText, api.ErrEnd} {
		if seen[e] < 50 {
			t.Errorf("error %d came %d times alone", e, seen[e])
		}
	}
}
