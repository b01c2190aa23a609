package semver

import (
	"cmp"
	"slices"
	"strings"
)

// Compare: -1, 0, 1: is the first version ahead of, level with, behind the second one? What is none is ahead of all.
func Compare(a, b string) int {
	// The numbers of what is no version are empty: level with each other, and ahead of every number.
	x, _ := Parse(a)
	y, _ := Parse(b)
	return cmp.Or(
		byNumber(x.Major, y.Major),
		byNumber(x.Minor, y.Minor),
		byNumber(x.Patch, y.Patch),
		byPre(x.Pre, y.Pre),
	)
}

// byNumber: the order of numbers, however many digits they have: with no 0 ahead the longer one is the greater.
func byNumber(a, b string) int {
	return cmp.Or(cmp.Compare(len(a), len(b)), strings.Compare(a, b))
}

// byPre: the order of prereleases; none is behind all.
func byPre(a, b string) int {
	switch {
	case a == b:
		return 0
	case a == "":
		return 1
	case b == "":
		return -1
	}
	return slices.CompareFunc(strings.Split(a, stop), strings.Split(b, stop), byWord)
}

// byWord: the order of a prerelease's words.
func byWord(a, b string) int {
	switch x, y := digits(a), digits(b); {
	case x && y:
		return byNumber(a, b)
	case x:
		return -1
	case y:
		return 1
	}
	return strings.Compare(a, b)
}

// Max: the one that is behind; the first, if they are level.
func Max(a, b string) string {
	if Compare(a, b) < 0 {
		return b
	}
	return a
}

// Sort puts a list in order: by Compare, and where that is level as texts.
func Sort(l []string) []string {
	l = slices.Clone(l)
	slices.SortFunc(l, func(a, b string) int {
		return cmp.Or(Compare(a, b), strings.Compare(a, b))
	})
	return l
}
