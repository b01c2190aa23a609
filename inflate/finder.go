package inflate

// mostTries bounds how many earlier places are looked at, so that a text of few bytes over and over takes no longer than others.
const mostTries = 32

// nowhere stands for a place that isn't.
const nowhere = -1

// beginning is the least that is worth a repeat.
type beginning [leastLength]byte

// finder finds what stood in a text before.
type finder struct {
	text string
	// newest tells where a beginning stood last, earlier where that of a place stood before.
	newest  map[beginning]int
	earlier []int
}

func newFinder(text string) *finder {
	return &finder{text, map[beginning]int{}, make([]int, len(text))}
}

// beginningAt: the bytes with which a repeat at a place would begin; false: there are too few.
func (f *finder) beginningAt(at int) (beginning, bool) {
	if len(f.text)-at < leastLength {
		return beginning{}, false
	}
	return beginning{f.text[at], f.text[at+1], f.text[at+2]}, true
}

// newestOf: where a beginning stood last, or nowhere.
func (f *finder) newestOf(b beginning) int {
	if at, ok := f.newest[b]; ok {
		return at
	}
	return nowhere
}

// add makes a place be found; places are added in their order.
func (f *finder) add(at int) {
	if b, ok := f.beginningAt(at); ok {
		f.earlier[at] = f.newestOf(b)
		f.newest[b] = at
	}
}

// longest: how many bytes at a place stood before among those that were added, and how far back; 0, 0: none.
func (f *finder) longest(at int) (int, int) {
	b, ok := f.beginningAt(at)
	if !ok {
		return 0, 0
	}
	length, distance := 0, 0
	place := f.newestOf(b)
	for tries := 0; tries < mostTries && place != nowhere && at-place <= farthest; tries++ {
		// Of equally long ones the nearest has the fewest further bits, and is met first.
		if n := f.alike(place, at); n > length {
			length, distance = n, at-place
		}
		if length == greatestLength {
			break
		}
		place = f.earlier[place]
	}
	return length, distance
}

// alike: how many bytes at two places are the same, as far as one repeat reaches.
func (f *finder) alike(place, at int) int {
	most := min(greatestLength, len(f.text)-at)
	n := 0
	for n < most && f.text[place+n] == f.text[at+n] {
		n++
	}
	return n
}
