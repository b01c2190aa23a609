package inflate

// The kinds of blocks.
const (
	storedKind  = 0
	fixedKind   = 1
	dynamicKind = 2
)

// The symbols of both sets.
const (
	endOfBlock    = 256
	firstLength   = 257
	longestLength = 285
	lastDistance  = 29
)

// What repeats can be.
const (
	leastLength    = 3
	greatestLength = 258
	leastDistance  = 1
	farthest       = 32768
)

// So many symbols in a row have equally many further bits.
const (
	lengthsAlike   = 4
	distancesAlike = 2
)

// spread: what symbol number k of a row begins with, above the row's least number, and how many further bits it has. The first two groups of alike symbols have none, each later group one more than the one ahead of it.
func spread(k, alike int) (int, int) {
	n := max(k/alike-1, 0)
	return (k - n*alike) << n, n
}

// lengthOf: the base and the further bits of a length symbol.
func lengthOf(symbol int) (int, int) {
	if symbol == longestLength {
		return greatestLength, 0
	}
	above, n := spread(symbol-firstLength, lengthsAlike)
	return leastLength + above, n
}

// distanceOf: the base and the further bits of a distance symbol.
func distanceOf(symbol int) (int, int) {
	above, n := spread(symbol, distancesAlike)
	return leastDistance + above, n
}
