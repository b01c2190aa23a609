package semver

import (
	"math/big"
	"math/rand"
	"slices"
	"sort"
	"strings"
	"testing"
)

// amount: a number of any digits.
func amount(s string) *big.Int {
	n, _ := new(big.Int).SetString(s, 10)
	return n
}

// compareByWords: the document's words on the order.
func compareByWords(a, b string) int {
	v, ok := parseByWords(a)
	w, okB := parseByWords(b)
	switch {
	case !ok && !okB:
		return 0
	case !ok:
		return -1
	case !okB:
		return 1
	}
	for _, pair := range [][2]string{{v.Major, w.Major}, {v.Minor, w.Minor}, {v.Patch, w.Patch}} {
		if c := amount(pair[0]).Cmp(amount(pair[1])); c != 0 {
			return c
		}
	}
	switch {
	case v.Pre == "" && w.Pre == "":
		return 0
	case v.Pre == "":
		return 1
	case w.Pre == "":
		return -1
	}
	return wordsByWords(strings.Split(v.Pre, "."), strings.Split(w.Pre, "."))
}

func wordsByWords(l, m []string) int {
	for i := 0; i < len(l) && i < len(m); i++ {
		if l[i] == m[i] {
			continue
		}
		x, y := strings.Trim(l[i], "0123456789") == "", strings.Trim(m[i], "0123456789") == ""
		if x && y {
			return amount(l[i]).Cmp(amount(m[i]))
		}
		if x || !y && l[i] < m[i] {
			return -1
		}
		return 1
	}
	return max(-1, min(len(l)-len(m), 1))
}

// compares holds Compare and Max against what the document asks, both ways round.
func compares(t *testing.T, a, b string, want int) {
	t.Helper()
	if c := Compare(a, b); c != want {
		t.Errorf("Compare(%q, %q): %d, not %d", a, b, c, want)
	}
	if c := Compare(b, a); c != -want {
		t.Errorf("Compare(%q, %q): %d, not %d", b, a, c, -want)
	}
	if c := compareByWords(a, b); c != want {
		t.Errorf("by the words, %q, %q: %d, not %d", a, b, c, want)
	}
	first, second := a, b
	if want < 0 {
		first = b
	}
	if want > 0 {
		second = a
	}
	if m := Max(a, b); m != first {
		t.Errorf("Max(%q, %q): %q", a, b, m)
	}
	if m := Max(b, a); m != second {
		t.Errorf("Max(%q, %q): %q", b, a, m)
	}
}

// rises: each row's texts are level, and ahead of those of the rows behind.
func rises(t *testing.T, rows ...[]string) {
	t.Helper()
	for i, row := range rows {
		for j, other := range rows {
			for _, a := range row {
				for _, b := range other {
					compares(t, a, b, max(-1, min(i-j, 1)))
				}
			}
		}
	}
}

// P20.2: the document's examples.
func TestCompare(t *testing.T) {
	rises(t, []string{"v1.0.0-alpha"}, []string{"v1.0.0-alpha.1"}, []string{"v1.0.0-alpha.beta"}, []string{"v1.0.0-beta"}, []string{"v1.0.0-beta.2"}, []string{"v1.0.0-beta.11"}, []string{"v1.0.0-rc.1"}, []string{"v1.0.0", "v1", "v1.0.0+x"})
}

// P20.2: numbers of unlike many digits, wanting numbers, builds, what is no version.
func TestCompareNumbers(t *testing.T) {
	long := strings.Repeat("9", 40)
	rises(t,
		[]string{"", "x", "v", "1.0.0", "V1.0.0", "v01", "v1.0.0-01", "v1.2+x", "v9999.", "zzz", "v1.0.0+", strings.Repeat("v", 200), "v" + strings.Repeat("9", 100)},
		[]string{"v0.0.0-0"},
		[]string{"v0", "v0.0", "v0.0.0", "v0.0.0+a", "v0.0.0+b.1"},
		[]string{"v0.0.1"},
		[]string{"v0.0.2", "v0.0.2+0", "v0.0.2+00"},
		[]string{"v0.0.10"},
		[]string{"v0.0.100"},
		[]string{"v0.0." + long},
		[]string{"v0.1.0-0.z"},
		[]string{"v0.1", "v0.1.0"},
		[]string{"v0.9.1"},
		[]string{"v0.10", "v0.10.0"},
		[]string{"v0." + long},
		[]string{"v0.1" + long},
		[]string{"v1", "v1.0", "v1.0.0"},
		[]string{"v1.2.3"},
		[]string{"v1.10.0"},
		[]string{"v2", "v2.0.0+incompatible"},
		[]string{"v9.9.9"},
		[]string{"v10"},
		[]string{"v18446744073709551615"},
		[]string{"v18446744073709551616"},
		[]string{"v18446744073709551617"},
		[]string{"v" + long},
		[]string{"v1" + strings.Repeat("0", 40)},
		[]string{"v" + strings.Repeat("9", 99)},
	)
}

// P20.2: a prerelease against none, words of digits against others, a row of words that is the beginning of another.
func TestComparePre(t *testing.T) {
	rises(t,
		[]string{"", "v1.2.3-", "v1.2.3-00", "v1.2.3-a..b"},
		[]string{"v1.2.2"},
		[]string{"v1.2.3-0", "v1.2.3-0+0", "v1.2.3-0+z"},
		[]string{"v1.2.3-0.0"},
		[]string{"v1.2.3-0.0.0"},
		[]string{"v1.2.3-0.20060102150405-abcdefabcdef"},
		[]string{"v1.2.3-0.a"},
		[]string{"v1.2.3-2"},
		[]string{"v1.2.3-9"},
		[]string{"v1.2.3-10"},
		[]string{"v1.2.3-18446744073709551616"},
		[]string{"v1.2.3-18446744073709551617"},
		[]string{"v1.2.3-99999999999999999999"},
		[]string{"v1.2.3-100000000000000000000"},
		[]string{"v1.2.3--"},
		[]string{"v1.2.3---"},
		[]string{"v1.2.3--1"},
		[]string{"v1.2.3-01a"},
		[]string{"v1.2.3-0a"},
		[]string{"v1.2.3-1-"},
		[]string{"v1.2.3-10-"},
		[]string{"v1.2.3-9-"},
		[]string{"v1.2.3-A"},
		[]string{"v1.2.3-Z"},
		[]string{"v1.2.3-a", "v1.2.3-a+b", "v1.2.3-a+c.d"},
		[]string{"v1.2.3-a.0"},
		[]string{"v1.2.3-a.0.z"},
		[]string{"v1.2.3-a.1"},
		[]string{"v1.2.3-a.1.0"},
		[]string{"v1.2.3-a.2"},
		[]string{"v1.2.3-a.10"},
		[]string{"v1.2.3-a.-"},
		[]string{"v1.2.3-a.a"},
		[]string{"v1.2.3-a-"},
		[]string{"v1.2.3-a-b"},
		[]string{"v1.2.3-a10"},
		[]string{"v1.2.3-a2"},
		[]string{"v1.2.3-aa"},
		[]string{"v1.2.3-b"},
		[]string{"v1.2.3-z.z.z"},
		[]string{"v1.2.3", "v1.2.3+0", "v1.2.3+a.b"},
		[]string{"v1.2.4-0"},
		[]string{"v1.3.0-0"},
		[]string{"v2.0.0-0"},
		[]string{"v2"},
	)
}

// P20.2: Max of level versions is the first one; of an empty text and a version the version.
func TestMax(t *testing.T) {
	for _, try := range [][3]string{
		{"v1", "v1.0.0", "v1"}, {"v1.0.0", "v1", "v1.0.0"}, {"v1.0.0+a", "v1.0.0+b", "v1.0.0+a"}, {"v1.0.0+b", "v1.0.0+a", "v1.0.0+b"}, {"v1.0.0-a+x", "v1.0.0-a", "v1.0.0-a+x"},
		{"x", "y", "x"}, {"y", "x", "y"}, {"", "x", ""}, {"x", "", "x"}, {"", "", ""}, {"", "v0", "v0"}, {"v0", "", "v0"}, {"v0.0.0-0", "zzz", "v0.0.0-0"}, {"zzz", "v0.0.0-0", "v0.0.0-0"},
		{"v1", "v2", "v2"}, {"v2", "v1", "v2"}, {"v2", "v10", "v10"}, {"v1.0.0-a", "v1", "v1"}, {"v1", "v1.0.0-a", "v1"}, {"v1.0.0", "v1.0.0", "v1.0.0"},
	} {
		if m := Max(try[0], try[1]); m != try[2] {
			t.Errorf("Max(%q, %q): %q", try[0], try[1], m)
		}
	}
}

// P20.2: by chance, against the words; of any three, the order goes on.
func TestCompareByChance(t *testing.T) {
	random := rand.New(rand.NewSource(2))
	for range 100000 {
		a, b, c := chanceText(random), chanceText(random), chanceText(random)
		if random.Intn(2) == 0 { // near each other
			at := strings.IndexAny(a+"-", "-+")
			b = a[:min(at, len(a))] + strings.TrimLeft(b, "v0123456789.")
		}
		compares(t, a, b, compareByWords(a, b))
		compares(t, a, a, 0)
		if Compare(a, b) <= 0 && Compare(b, c) <= 0 && Compare(a, c) > 0 {
			t.Errorf("%q, %q, %q", a, b, c)
		}
		if Compare(a, b) == 0 && Compare(a, c) != Compare(b, c) {
			t.Errorf("level: %q, %q; %q", a, b, c)
		}
		if x := Canonical(a); x != "" {
			compares(t, a, x, 0)
		}
	}
}

// sorts holds Sort against a list in order, from several orders of it.
func sorts(t *testing.T, want ...string) {
	t.Helper()
	random := rand.New(rand.NewSource(3))
	l := slices.Clone(want)
	for range 20 {
		if got := Sort(l); len(got) != len(want) || !slices.Equal(got, want) {
			t.Errorf("Sort(%q): %q, not %q", l, got, want)
		}
		random.Shuffle(len(l), func(i, j int) { l[i], l[j] = l[j], l[i] })
	}
	slices.Reverse(l)
	if got := Sort(l); !slices.Equal(got, want) {
		t.Errorf("Sort(%q): %q, not %q", l, got, want)
	}
}

// P20.3: none, one, several that are level, the same one twice, what is no version among others.
func TestSort(t *testing.T) {
	sorts(t)
	if l := Sort([]string{}); len(l) != 0 {
		t.Errorf("Sort of none: %q", l)
	}
	sorts(t, "v1")
	sorts(t, "")
	sorts(t, "x")
	sorts(t, "v1", "v2")
	sorts(t, "v1", "v1.0", "v1.0.0", "v1.0.0+a", "v1.0.0+b")
	sorts(t, "v1.0.0-a", "v1.0.0-a+a", "v1.0.0-a+b", "v1", "v1.0.0+0")
	sorts(t, "v1", "v1", "v1.0.0", "v1.0.0", "v2", "v2", "v2")
	sorts(t, "x", "x", "x")
	sorts(t, "", "1.0.0", "V1.0.0", "a", "v1.", "v1.0.0-01", "z", "\xff", "v0.0.0-0", "v0", "v1")
	sorts(t, "v2", "v10", "v10.0.0", "v10.2.0", "v10.10.0", "v100")
	sorts(t, "x", "v1.0.0-alpha", "v1.0.0-alpha.1", "v1.0.0-alpha.beta", "v1.0.0-beta", "v1.0.0-beta.2", "v1.0.0-beta.11", "v1.0.0-rc.1", "v1.0.0")
	sorts(t, "v"+strings.Repeat("1", 100), strings.Repeat("v", 101), "v"+strings.Repeat("9", 98), "v"+strings.Repeat("1", 99))
}

// P20.3: lists by chance against the words.
func TestSortByChance(t *testing.T) {
	random := rand.New(rand.NewSource(4))
	for range 600 {
		var l []string
		for range random.Intn(60) {
			l = append(l, chanceText(random))
			if random.Intn(5) == 0 {
				l = append(l, l[random.Intn(len(l))])
			}
		}
		want := slices.Clone(l)
		sort.Slice(want, func(i, j int) bool {
			c := compareByWords(want[i], want[j])
			return c < 0 || c == 0 && want[i] < want[j]
		})
		before := slices.Clone(l)
		if got := Sort(l); !slices.Equal(got, want) || !slices.Equal(l, before) {
			t.Errorf("Sort(%q): %q, not %q", before, got, want)
		}
	}
}

// P20.3: a great many end soon.
func TestSortMany(t *testing.T) {
	random := rand.New(rand.NewSource(5))
	l := make([]string, 20000)
	for i := range l {
		l[i] = chanceText(random)
	}
	got := Sort(l)
	for i := 1; i < len(got); i++ {
		if c := Compare(got[i-1], got[i]); c > 0 || c == 0 && got[i-1] > got[i] {
			t.Fatalf("%q ahead of %q", got[i-1], got[i])
		}
	}
	if len(got) != len(l) {
		t.Errorf("%d of %d", len(got), len(l))
	}
}

// P20.4: the bytes of a list of texts and the room behind them are as they were; the answer is a list of its own.
func TestSortKeeps(t *testing.T) {
	whole := []string{"v2", "x", "v1", "v1.0.0", "behind", "v0"}
	l := whole[:4]
	want := slices.Clone(whole)
	got := Sort(l)
	if !slices.Equal(whole, want) {
		t.Errorf("handed in: %q", whole)
	}
	if !slices.Equal(got, []string{"x", "v1", "v1.0.0", "v2"}) {
		t.Errorf("Sort: %q", got)
	}
	again := Sort(l)
	got[0] = "other"
	_ = append(got, "more")
	_ = append(again, "more")
	if !slices.Equal(whole, want) || again[0] != "x" {
		t.Errorf("behind a change of the answer: %q, %q", whole, again)
	}
	whole[0], whole[1] = "one", "two"
	if !slices.Equal(again, []string{"x", "v1", "v1.0.0", "v2"}) {
		t.Errorf("behind a change of what was handed in: %q", again)
	}
	ordered := []string{"v1", "v2"}
	same := Sort(ordered)
	same[0] = "other"
	if ordered[0] != "v1" {
		t.Error("a list that was in order is handed out")
	}
	spare := make([]string, 0, 4)
	_ = append(Sort(spare), "more")
	if one := spare[:1]; one[0] != "" {
		t.Errorf("the room behind an empty list: %q", one)
	}
}
