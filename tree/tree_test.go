package tree

import (
	"fmt"
	"math/rand"
	"regexp"
	"slices"
	"strings"
	"testing"

	"cartulary/api"
)

const (
	someId  = "e69de29bb2d1d6434b8b29ae775ad8c2e48c5391"
	otherId = "ce013625030ba8dba906f756967f9e9ca394464a"
)

var allModes = []int{0o40000, 0o100644, 0o100755, 0o120000, 0o160000}

// entry: one with some Id.
func entry(mode int, name string) api.Entry {
	return api.Entry{Mode: mode, Name: name, Id: someId}
}

// numbered: n entries in form, all of a mode.
func numbered(n, mode int) []api.Entry {
	var l []api.Entry
	for i := range n {
		l = append(l, api.Entry{Mode: mode, Name: fmt.Sprintf("n%06d", i), Id: fmt.Sprintf("%040x", i)})
	}
	return l
}

// checks holds Check and Format against what the document asks of an error.
func checks(t *testing.T, what string, l []api.Entry, want api.Errno) {
	t.Helper()
	if e := Check(l); e != want {
		t.Errorf("%s: Check: %d, not %d", what, e, want)
	}
	s, e := Format(l)
	if e != want || e != api.OK && s != "" {
		t.Errorf("%s: Format: %q, %d, not %d", what, s, e, want)
	}
}

var (
	nameBytes = regexp.MustCompile(`^(?s:[^/\x00]){1,100}\z`)
	reserved  = regexp.MustCompile(`^(\.|\.\.|\.[gG][iI][tT])\z`)
)

// nameByWords: the document's words on a Name. Bytes are made runes of their own, so that the rules count bytes.
func nameByWords(s string) bool {
	var wide []rune
	for _, c := range []byte(s) {
		wide = append(wide, rune(c))
	}
	return nameBytes.MatchString(string(wide)) && !reserved.MatchString(string(wide))
}

// P14.1: all short texts of the bytes that count.
func TestNameShort(t *testing.T) {
	right := 0
	var grow func(text string)
	grow = func(text string) {
		want := nameByWords(text)
		if Name(text) != want {
			t.Errorf("Name(%q): %v", text, !want)
		}
		if want {
			right++
		}
		if len(text) == 5 {
			return
		}
		for _, c := range []string{".", "g", "G", "i", "I", "t", "T", "/", "\x00", " "} {
			grow(text + c)
		}
	}
	grow("")
	if right < 10000 {
		t.Errorf("only %d Names", right)
	}
}

// P14.1: each byte: alone, and first, last and in the midst.
func TestNameBytes(t *testing.T) {
	for c := range 256 {
		b := string([]byte{byte(c)})
		plain := c != '/' && c != 0
		for text, want := range map[string]bool{
			b:               plain && c != '.',
			b + "a":         plain,
			"a" + b:         plain,
			"a" + b + "a":   plain,
			"." + b:         plain && c != '.',
			".." + b:        plain,
			".gi" + b:       plain && c != 't' && c != 'T',
			".g" + b + "t":  plain && c != 'i' && c != 'I',
			"." + b + "it":  plain && c != 'g' && c != 'G',
			b + "git":       plain && c != '.',
			".git" + b:      plain,
			b + ".git":      plain,
			"a/" + b + "/a": false,
		} {
			if Name(text) != want {
				t.Errorf("Name(%q): %v", text, !want)
			}
		}
	}
}

// P14.1: Names of 0, 1, 100 and 101 bytes, and all between.
func TestNameLength(t *testing.T) {
	for n := range 300 {
		want := n >= 1 && n <= 100
		for _, unit := range []string{"a", "\xff", " ", "\n"} {
			text := strings.Repeat(unit, n)
			if Name(text) != want {
				t.Errorf("Name of %d bytes %q: %v", n, unit, !want)
			}
			if n > 1 && (Name(text[1:]+"/") || Name(text[1:]+"\x00")) {
				t.Errorf("Name of %d bytes with a slash or a 0: true", n)
			}
		}
		// Bytes count, not letters.
		text := strings.Repeat("é", n)
		if Name(text) != (n >= 1 && n <= 50) {
			t.Errorf("Name of %d bytes: %v", len(text), n > 50)
		}
	}
}

// P14.1: what has a meaning of its own, and what only looks like it. Great letters are A to Z alone.
func TestNameReserved(t *testing.T) {
	for _, s := range []string{"", ".", "..", ".git", ".GIT", ".Git", ".gIt", ".giT", ".GIt", ".gIT", ".GiT", "/", "a/", "/a", "a/b", ".git/", "\x00", "a\x00", "\x00a", "a\x00b"} {
		if Name(s) {
			t.Errorf("Name(%q): true", s)
		}
	}
	for _, s := range []string{"...", "....", ".gitx", "x.git", "git", ".gi", ".g", ".git ", " .git", ".git.", "..git", ".git\n", ".gİt", ".gıt", ".GİT", ".gi\u0442", ".ｇit", ". ", " ", "\n", "\\", "a\\b", "é", "\xff\xfe", "-", "~"} {
		if !Name(s) {
			t.Errorf("Name(%q): false", s)
		}
	}
}

// P14.1: just five modes, wherever the entry stands.
func TestCheckModes(t *testing.T) {
	right := 0
	modes := []int{-1 << 63, 1<<63 - 1, 1<<32 + 0o40000, 1<<32 + 0o100644, -0o40000, -0o100644, 40000, 100644, 100755, 120000, 160000}
	for mode := -100; mode < 1<<17; mode++ {
		modes = append(modes, mode)
	}
	for _, mode := range modes {
		want := api.ErrForm
		if slices.Contains(allModes, mode) {
			want = api.OK
			right++
		}
		if e := Check([]api.Entry{entry(mode, "a")}); e != want {
			t.Errorf("mode %o: %d", mode, e)
		}
		if e := Check([]api.Entry{entry(Plain, "A"), entry(mode, "a"), entry(Link, "b")}); e != want {
			t.Errorf("mode %o in the midst: %d", mode, e)
		}
	}
	if right != 5 {
		t.Errorf("%d modes", right)
	}
	for i, mode := range []int{Folder, Plain, Runs, Link, Module} {
		if mode != allModes[i] {
			t.Errorf("mode %d is %o", i, mode)
		}
	}
}

// P14.1: an Id that is no name.
func TestCheckIds(t *testing.T) {
	for _, id := range []string{"", someId[:39], someId + "0", strings.ToUpper(someId), "E" + someId[1:], someId[:39] + "F", "g" + someId[1:], someId[:39] + " ", " " + someId[:39], someId[:39] + "\x00", someId[:20], strings.Repeat("é", 20), someId + "\n"} {
		for at := range 3 {
			l := []api.Entry{entry(Plain, "a"), entry(Plain, "b"), entry(Folder, "c")}
			checks(t, "Ids that are names", l, api.OK)
			l[at].Id = id
			checks(t, "an Id that is none", l, api.ErrForm)
			checks(t, "an Id that is none", l[at:at+1], api.ErrForm)
		}
	}
	for _, id := range []string{someId, otherId, strings.Repeat("0", 40), strings.Repeat("f", 40)} {
		checks(t, "an Id that is one", []api.Entry{{Mode: Plain, Name: "a", Id: id}}, api.OK)
	}
}

// P14.1: each Name that may not be one, wherever it would stand.
func TestCheckNames(t *testing.T) {
	for _, name := range []string{"", ".", "..", ".git", ".gIT", "a/b", "a/", "/", "a\x00", "\x00", strings.Repeat("a", 101)} {
		for _, mode := range allModes {
			checks(t, name, []api.Entry{entry(mode, name)}, api.ErrForm)
			checks(t, name, []api.Entry{entry(mode, name), entry(Plain, "zz")}, api.ErrForm)
			checks(t, name, []api.Entry{entry(Plain, " "), entry(mode, name)}, api.ErrForm)
		}
	}
	for _, name := range []string{"...", ".gitx", "a", strings.Repeat("a", 100)} {
		for _, mode := range allModes {
			checks(t, name, []api.Entry{entry(mode, name)}, api.OK)
		}
	}
}

// P14.1: MaxEntries entries, and one more, which counts ahead of what isn't in form.
func TestCheckMany(t *testing.T) {
	if MaxEntries != 500 {
		t.Errorf("MaxEntries is %d", MaxEntries)
	}
	for _, mode := range allModes {
		for _, n := range []int{0, 1, 2, 499, 500, 501, 502, 1000} {
			var want api.Errno
			if n > 500 {
				want = api.ErrBig
			}
			checks(t, fmt.Sprint(n, " entries"), numbered(n, mode), want)
		}
	}
	checks(t, "500 that aren't in form", make([]api.Entry, 500), api.ErrForm)
	checks(t, "501 that aren't in form", make([]api.Entry, 501), api.ErrBig)
	l := numbered(501, Plain)
	slices.Reverse(l)
	checks(t, "501 that fall", l, api.ErrBig)
	checks(t, "500 that fall", l[:500], api.ErrForm)
	l = numbered(500, Folder)
	l[499].Name = l[0].Name
	checks(t, "the last one's Name is the first one's", l, api.ErrForm)
	l = numbered(500, Plain)
	l[499].Mode = 0
	checks(t, "the last one has no mode", l, api.ErrForm)
}

// P14.1: the order, in which the slash behind a Folder counts.
func TestCheckOrder(t *testing.T) {
	for _, c := range []struct {
		what string
		l    []api.Entry
		want api.Errno
	}{
		{"none", nil, api.OK},
		{"none, of an empty list", []api.Entry{}, api.OK},
		{"a.b ahead of the Folder a", []api.Entry{entry(Plain, "a.b"), entry(Folder, "a")}, api.OK},
		{"the Folder a ahead of a.b", []api.Entry{entry(Folder, "a"), entry(Plain, "a.b")}, api.ErrForm},
		{"the Plain a ahead of a.b", []api.Entry{entry(Plain, "a"), entry(Plain, "a.b")}, api.OK},
		{"a.b ahead of the Plain a", []api.Entry{entry(Plain, "a.b"), entry(Plain, "a")}, api.ErrForm},
		{"the Folder a ahead of a0", []api.Entry{entry(Folder, "a"), entry(Plain, "a0")}, api.OK},
		{"a0 ahead of the Folder a", []api.Entry{entry(Plain, "a0"), entry(Folder, "a")}, api.ErrForm},
		{"the Folders a.b and a", []api.Entry{entry(Folder, "a.b"), entry(Folder, "a")}, api.OK},
		{"the Folders a and a.b", []api.Entry{entry(Folder, "a"), entry(Folder, "a.b")}, api.ErrForm},
		{"the Folders a and ab", []api.Entry{entry(Folder, "a"), entry(Folder, "ab")}, api.OK},
		{"a Module has no slash", []api.Entry{entry(Module, "a"), entry(Plain, "a.b")}, api.OK},
		{"a.b ahead of the Module a", []api.Entry{entry(Plain, "a.b"), entry(Module, "a")}, api.ErrForm},
		{"a Link has no slash", []api.Entry{entry(Link, "a"), entry(Plain, "a.b")}, api.OK},
		{"what runs has no slash", []api.Entry{entry(Runs, "a"), entry(Plain, "a.b")}, api.OK},
		{"they fall", []api.Entry{entry(Plain, "b"), entry(Plain, "a")}, api.ErrForm},
		{"twice", []api.Entry{entry(Plain, "a"), entry(Plain, "a")}, api.ErrForm},
		{"twice, of other modes", []api.Entry{entry(Plain, "a"), entry(Link, "a")}, api.ErrForm},
		{"a Folder twice", []api.Entry{entry(Folder, "a"), entry(Folder, "a")}, api.ErrForm},
		{"a Plain and a Folder", []api.Entry{entry(Plain, "a"), entry(Folder, "a")}, api.ErrForm},
		{"a Folder and a Plain", []api.Entry{entry(Folder, "a"), entry(Plain, "a")}, api.ErrForm},
		{"with another between", []api.Entry{entry(Plain, "a"), entry(Plain, "a.b"), entry(Folder, "a")}, api.ErrForm},
		{"with several between", []api.Entry{entry(Link, "a"), entry(Plain, "a "), entry(Plain, "a-"), entry(Folder, "a-c"), entry(Runs, "a.b"), entry(Folder, "a")}, api.ErrForm},
		{"several, and no Name twice", []api.Entry{entry(Plain, "a "), entry(Plain, "a-"), entry(Folder, "a-c"), entry(Runs, "a.b"), entry(Folder, "a")}, api.OK},
		{"bytes above 127", []api.Entry{entry(Plain, "z"), entry(Plain, "\x7f"), entry(Plain, "\x80"), entry(Plain, "\xff")}, api.OK},
		{"great letters are ahead of small ones", []api.Entry{entry(Plain, "B"), entry(Plain, "a")}, api.OK},
		{"great and small letters are unlike", []api.Entry{entry(Plain, "A"), entry(Plain, "a")}, api.OK},
	} {
		checks(t, c.what, c.l, c.want)
	}
}

// checkByWords: Check by the document's words, each entry held against all others.
func checkByWords(l []api.Entry) api.Errno {
	if len(l) > 500 {
		return api.ErrBig
	}
	rank := func(x api.Entry) string {
		return x.Name + strings.Repeat("/", map[int]int{0o40000: 1}[x.Mode])
	}
	for i, x := range l {
		if !slices.Contains(allModes, x.Mode) || !nameByWords(x.Name) || !regexp.MustCompile(`^[0-9a-f]{40}\z`).MatchString(x.Id) {
			return api.ErrForm
		}
		for _, y := range l[:i] {
			if y.Name == x.Name || rank(y) >= rank(x) {
				return api.ErrForm
			}
		}
	}
	return api.OK
}

// P14.1: all lists of up to three of some entries, and random longer ones, against the words.
func TestCheckLists(t *testing.T) {
	var some []api.Entry
	for _, name := range []string{"a", "a.", "a0", "a-b", "b", "."} {
		some = append(some, entry(Plain, name), entry(Folder, name), entry(Module, name))
	}
	counted := map[api.Errno]int{}
	holds := func(l []api.Entry) {
		want := checkByWords(l)
		counted[want]++
		if e := Check(l); e != want {
			t.Errorf("Check(%v): %d, not %d", l, e, want)
		}
	}
	for _, x := range some {
		holds([]api.Entry{x})
		for _, y := range some {
			holds([]api.Entry{x, y})
			for _, z := range some {
				holds([]api.Entry{x, y, z})
			}
		}
	}
	random := rand.New(rand.NewSource(14))
	for range 3000 {
		l := someEntries(random, 1+random.Intn(20))
		holds(l)
		spoil(random, l)
		holds(l)
	}
	if counted[api.OK] < 3000 || counted[api.ErrForm] < 3000 {
		t.Errorf("the lists: %v", counted)
	}
}

// someEntries: up to n entries in form.
func someEntries(random *rand.Rand, n int) []api.Entry {
	byRank := map[string]api.Entry{}
	seen := map[string]bool{}
	for range n {
		name := make([]byte, 1+random.Intn(4))
		for i := range name {
			name[i] = " -.0aZ\x01\xff"[random.Intn(8)]
		}
		x := api.Entry{Mode: allModes[random.Intn(5)], Name: string(name), Id: fmt.Sprintf("%040x", random.Uint64())}
		if seen[x.Name] || !nameByWords(x.Name) {
			continue
		}
		seen[x.Name] = true
		rank := x.Name
		if x.Mode == 0o40000 {
			rank += "/"
		}
		byRank[rank] = x
	}
	var ranks []string
	for rank := range byRank {
		ranks = append(ranks, rank)
	}
	slices.Sort(ranks)
	var l []api.Entry
	for _, rank := range ranks {
		l = append(l, byRank[rank])
	}
	return l
}

// spoil changes a list a little: often it isn't in form any more.
func spoil(random *rand.Rand, l []api.Entry) {
	if len(l) == 0 {
		return
	}
	i, k := random.Intn(len(l)), random.Intn(len(l))
	switch random.Intn(6) {
	case 0:
		l[i], l[k] = l[k], l[i]
	case 1:
		l[i].Name = l[k].Name
	case 2:
		l[i].Mode = allModes[random.Intn(5)]
	case 3:
		l[i].Name += "/"
	case 4:
		l[i].Mode ^= 1 << random.Intn(17)
	case 5:
		l[i].Id = l[i].Id[random.Intn(2):]
	}
}

// P14.3: the first entry of that Name, of any list.
func TestFind(t *testing.T) {
	inForm := []api.Entry{entry(Plain, "a.b"), entry(Folder, "a"), {Mode: Runs, Name: "a0", Id: otherId}, entry(Link, "b")}
	anyhow := []api.Entry{
		{Mode: 7, Name: "z", Id: "none"},
		entry(Folder, "a"),
		{Mode: Plain, Name: "a", Id: otherId},
		{Name: ""},
		{Mode: Plain, Name: "a/b"},
		entry(Plain, "B"),
		{Mode: -1, Name: "z"},
		{Mode: Plain, Name: "", Id: someId},
		entry(Plain, ".git"),
		entry(Plain, "\x00"),
	}
	for _, c := range []struct {
		l    []api.Entry
		name string
		want int
	}{
		{inForm, "a.b", 0}, {inForm, "a", 1}, {inForm, "a0", 2}, {inForm, "b", 3},
		{inForm, "", -1}, {inForm, "a/", -1}, {inForm, "A", -1}, {inForm, "a.", -1}, {inForm, "a.bc", -1}, {inForm, "c", -1}, {inForm, someId, -1}, {inForm, "b\x00", -1},
		{anyhow, "z", 0}, {anyhow, "a", 1}, {anyhow, "", 3}, {anyhow, "a/b", 4}, {anyhow, "B", 5}, {anyhow, ".git", 8}, {anyhow, "\x00", 9},
		{anyhow, "b", -1}, {anyhow, ".Git", -1}, {anyhow, "none", -1},
		{nil, "a", -1}, {nil, "", -1}, {[]api.Entry{}, "", -1}, {make([]api.Entry, 3), "", 0},
	} {
		x, e := Find(c.l, c.name)
		if c.want < 0 && (x != api.Entry{} || e != api.ErrAbsent) || c.want >= 0 && (e != api.OK || x != c.l[c.want]) {
			t.Errorf("Find(%q) of %d entries: %v, %d", c.name, len(c.l), x, e)
		}
	}
	l := numbered(3000, Plain)
	for i := range l {
		if x, e := Find(l, l[i].Name); e != api.OK || x != l[i] {
			t.Errorf("Find of entry %d: %v, %d", i, x, e)
		}
	}
}

// P14.4: what is handed in, and the spare room behind it, stays as it is; whoever changes it or an answer changes no other answer.
func TestMemory(t *testing.T) {
	random := rand.New(rand.NewSource(4))
	for range 200 {
		whole := someEntries(random, 20)
		if len(whole) < 3 {
			continue
		}
		if random.Intn(2) == 0 {
			spoil(random, whole)
		}
		kept := slices.Clone(whole)
		l := whole[:len(whole)-2]
		e := Check(l)
		s, f := Format(l)
		x, g := Find(l, l[0].Name)
		if !slices.Equal(whole, kept) {
			t.Fatalf("changed: %v, not %v", whole, kept)
		}
		if e != f || g != api.OK || x != kept[0] {
			t.Errorf("Check: %d, Format: %d, Find: %v, %d", e, f, x, g)
		}
		if f != api.OK {
			continue
		}
		for i := range whole {
			whole[i] = api.Entry{Name: "changed"}
		}
		one, _ := Parse(s)
		two, _ := Parse(s)
		if !slices.Equal(one, kept[:len(l)]) {
			t.Errorf("Parse(%q): %v", s, one)
		}
		for i := range one {
			one[i] = api.Entry{}
		}
		_ = append(one[:0], whole...)
		if !slices.Equal(two, kept[:len(l)]) {
			t.Errorf("another answer: %v", two)
		}
		if three, _ := Parse(s); !slices.Equal(three, two) {
			t.Errorf("a later answer: %v", three)
		}
	}
}
