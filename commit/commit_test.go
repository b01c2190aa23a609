package commit

import (
	"fmt"
	"math"
	"reflect"
	"regexp"
	"slices"
	"strings"
	"testing"

	"cartulary/api"
)

const (
	someId  = "4b825dc642cb6eb9a060e54bf8d69288fbee4904"
	otherId = "e69de29bb2d1d6434b8b29ae775ad8c2e48c5391"
)

// sign: one that is in form.
func sign(who string, time, zone int) api.Sign {
	return api.Sign{Who: who, Time: time, Zone: zone}
}

// change: a commit in form.
func change() api.Change {
	return api.Change{Tree: someId, Parents: []string{otherId, someId}, Author: sign("ann <a>", 5, -90), Committer: sign("bob <b>", 6, 330), Message: "hi\n"}
}

// label: a tag in form.
func label() api.Label {
	return api.Label{Object: someId, Kind: api.Commit, Name: "v1.0.0", Tagger: sign("ann <a>", 5, -90), Message: "hi\n"}
}

// ids: n names.
func ids(n int) []string {
	var l []string
	for i := range n {
		l = append(l, fmt.Sprintf("%040x", i))
	}
	return l
}

// noIds: texts that are no names.
func noIds() []string {
	return []string{"", someId[:39], someId + "0", strings.ToUpper(someId), "E" + someId[1:], "g" + someId[1:], someId[:39] + " ", " " + someId[1:], someId[:39] + "\x00", someId[:39] + "\n", someId + "\n", someId[:20], strings.Repeat("é", 20), "HEAD"}
}

// same: are two commits one, however a list of none is kept?
func same(a, b api.Change) bool {
	parents := slices.Equal(a.Parents, b.Parents)
	a.Parents, b.Parents = nil, nil
	return parents && reflect.DeepEqual(a, b)
}

// checks holds Check and Format against what the document asks of an error.
func checks(t *testing.T, what string, c api.Change, want api.Errno) {
	t.Helper()
	if e := Check(c); e != want {
		t.Errorf("%s: Check: %d, not %d", what, e, want)
	}
	s, e := Format(c)
	if e != want || (e == api.OK) != (s != "") {
		t.Errorf("%s: Format: %q, %d, not %d", what, s, e, want)
	}
}

// checksTag does the same of a tag.
func checksTag(t *testing.T, what string, l api.Label, want api.Errno) {
	t.Helper()
	if e := CheckTag(l); e != want {
		t.Errorf("%s: CheckTag: %d, not %d", what, e, want)
	}
	s, e := FormatTag(l)
	if e != want || (e == api.OK) != (s != "") {
		t.Errorf("%s: FormatTag: %q, %d, not %d", what, s, e, want)
	}
}

// formats holds Format against the bytes that the document asks for, and Parse of those against the commit.
func formats(t *testing.T, c api.Change, want string) {
	t.Helper()
	if s, e := Format(c); s != want || e != api.OK {
		t.Errorf("Format(%v): %q, %d, not %q", c, s, e, want)
	}
	parses(t, "what was written", want, api.OK, c)
}

// formatsTag does the same of a tag.
func formatsTag(t *testing.T, l api.Label, want string) {
	t.Helper()
	if s, e := FormatTag(l); s != want || e != api.OK {
		t.Errorf("FormatTag(%v): %q, %d, not %q", l, s, e, want)
	}
	parsesTag(t, "what was written", want, api.OK, l)
}

// P15.1: the limits.
func TestLimits(t *testing.T) {
	if MaxTime != 253402300799 || MaxZone != 840 || MaxParents != 16 {
		t.Errorf("MaxTime %d, MaxZone %d, MaxParents %d", MaxTime, MaxZone, MaxParents)
	}
}

var lineText = regexp.MustCompile(`^(?s:[^\n\x00]){1,100}\z`)

// lineByWords: the document's words on a line's text. Bytes are made runes of their own, so that bytes are counted.
func lineByWords(s string) bool {
	var wide []rune
	for _, c := range []byte(s) {
		wide = append(wide, rune(c))
	}
	return lineText.MatchString(string(wide))
}

// P15.1: texts of 0, 1, 100 and 101 bytes, and all between.
func TestLineLength(t *testing.T) {
	for n := range 300 {
		want := n >= 1 && n <= 100
		for _, unit := range []string{"a", " ", "\xff", "\r", "<", "\x01"} {
			text := strings.Repeat(unit, n)
			if Line(text) != want || lineByWords(text) != want {
				t.Errorf("Line of %d bytes %q: %v", n, unit, !want)
			}
		}
		// Bytes count, not letters.
		if text := strings.Repeat("é", n); Line(text) != (n >= 1 && n <= 50) {
			t.Errorf("Line of %d bytes: %v", len(text), n > 50)
		}
	}
}

// P15.1: each byte: alone, and at each place of a text of 100 bytes.
func TestLineBytes(t *testing.T) {
	for c := range 256 {
		b := string([]byte{byte(c)})
		want := c != 10 && c != 0
		for _, text := range []string{b, b + b, b + "a", "a" + b, "a" + b + "a", "é" + b} {
			if Line(text) != want {
				t.Errorf("Line(%q): %v", text, !want)
			}
		}
		for at := range 100 {
			text := strings.Repeat("a", at) + b + strings.Repeat("a", 99-at)
			if Line(text) != want {
				t.Errorf("Line with %q at %d of 100: %v", b, at, !want)
			}
			if Line(text + "a") {
				t.Errorf("Line with %q at %d of 101: true", b, at)
			}
		}
	}
}

// signs: what may be signed, and what may not.
func signs() map[api.Sign]bool {
	all := map[api.Sign]bool{}
	for who, right := range map[string]bool{
		"ann <a>": true, "a": true, " ": true, "  ": true, " ann": true, "ann ": true, " a  b ": true, "a 0 +0000": true, "\t": true, "\r": true, "\xff\xfe": true,
		strings.Repeat("w", 100): true, strings.Repeat(" ", 100): true, strings.Repeat("w", 101): false, strings.Repeat(" ", 101): false,
		"": false, "\n": false, "a\n": false, "\na": false, "a\nb": false, "\x00": false, "a\x00b": false, "a\x00": false,
	} {
		all[sign(who, 0, 0)] = right
		all[sign(who, MaxTime, -MaxZone)] = right
		all[sign(who, -1, 0)] = false
		all[sign(who, 0, 841)] = false
	}
	for time, right := range map[int]bool{
		-1: false, 0: true, 1: true, 9: true, 10: true, 1700000000: true, 253402300798: true, 253402300799: true, 253402300800: false, math.MinInt: false, math.MaxInt: false, -253402300799: false, math.MaxInt32: true, math.MaxInt32 + 1: true, math.MinInt32: false, math.MaxUint32 + 1: true,
	} {
		all[sign("ann", time, 0)] = right
		all[sign("ann", time, 840)] = right
		all[sign("", time, 0)] = false
	}
	for zone, right := range map[int]bool{
		-842: false, -841: false, -840: true, -839: true, -61: true, -60: true, -59: true, -30: true, -1: true, 0: true, 1: true, 59: true, 60: true, 61: true, 90: true, 839: true, 840: true, 841: false, 842: false, 1400: false, -1400: false, 900: false, math.MinInt: false, math.MaxInt: false, 1 << 32: false,
	} {
		all[sign("ann", 1, zone)] = right
		all[sign("a\n", 1, zone)] = false
	}
	return all
}

// P15.1, P15.2: each of these as an author, a committer, a tagger.
func TestCheckSigns(t *testing.T) {
	right := 0
	for x, ok := range signs() {
		want := api.ErrForm
		if ok {
			want = api.OK
			right++
		}
		c := change()
		c.Author = x
		checks(t, fmt.Sprint("author ", x), c, want)
		c = change()
		c.Committer = x
		checks(t, fmt.Sprint("committer ", x), c, want)
		l := label()
		l.Tagger = x
		checksTag(t, fmt.Sprint("tagger ", x), l, want)
	}
	if right < 40 {
		t.Errorf("only %d are signed", right)
	}
}

// P15.1: a Tree and parents that are no names, wherever they stand.
func TestCheckIds(t *testing.T) {
	for _, id := range noIds() {
		c := change()
		c.Tree = id
		checks(t, "a Tree "+id, c, api.ErrForm)
		for _, n := range []int{1, 2, 3, 16} {
			for at := range n {
				c := change()
				c.Parents = ids(n)
				c.Parents[at] = id
				checks(t, fmt.Sprintf("parent %d of %d is %q", at, n, id), c, api.ErrForm)
			}
		}
		l := label()
		l.Object = id
		checksTag(t, "an Object "+id, l, api.ErrForm)
	}
	for _, id := range []string{someId, otherId, strings.Repeat("0", 40), strings.Repeat("f", 40)} {
		c := change()
		c.Tree, c.Parents = id, []string{id, id, id}
		checks(t, id, c, api.OK)
		l := label()
		l.Object = id
		checksTag(t, id, l, api.OK)
	}
}

// P15.1: no parents, one, MaxParents and one more, which counts ahead of what isn't in form.
func TestCheckParents(t *testing.T) {
	for _, n := range []int{0, 1, 2, 15, 16, 17, 18, 100, 5000} {
		c := change()
		c.Parents = ids(n)
		var want api.Errno
		if n > 16 {
			want = api.ErrBig
		}
		checks(t, fmt.Sprint(n, " parents"), c, want)
		if n <= 16 {
			want = api.ErrForm
		}
		for _, spoil := range []func(c *api.Change){
			func(c *api.Change) { c.Tree = "" },
			func(c *api.Change) { c.Parents = make([]string, max(n, 1)) },
			func(c *api.Change) { c.Author.Who = "" },
			func(c *api.Change) { c.Committer.Time = -1 },
			func(c *api.Change) { c.Committer.Zone = 841 },
		} {
			c := change()
			c.Parents = ids(n)
			spoil(&c)
			checks(t, fmt.Sprint(n, " parents, and not in form"), c, want)
		}
	}
	c := change()
	c.Parents = []string{}
	checks(t, "an empty list of parents", c, api.OK)
	checks(t, "the zero commit", api.Change{}, api.ErrForm)
}

// P15.1, P15.2: messages are any bytes.
func TestMessages(t *testing.T) {
	for _, message := range []string{"", "\n", "\n\nhi", "hi", "hi\n", "hi\n\n", "\x00", "a\x00b\x00", "\xff\xfe\n", "tree " + someId + "\n", "parent " + someId + "\n", "author a 0 +0000\ncommitter a 0 +0000\n\n", " ", "\r\n", strings.Repeat("long\n", 50000)} {
		c := change()
		c.Message = message
		formats(t, c, "tree "+someId+"\nparent "+otherId+"\nparent "+someId+"\nauthor ann <a> 5 -0130\ncommitter bob <b> 6 +0530\n\n"+message)
		c.Parents = nil
		formats(t, c, "tree "+someId+"\nauthor ann <a> 5 -0130\ncommitter bob <b> 6 +0530\n\n"+message)
		l := label()
		l.Message = message
		formatsTag(t, l, "object "+someId+"\ntype commit\ntag v1.0.0\ntagger ann <a> 5 -0130\n\n"+message)
	}
}

// P15.1, P15.2: what is signed, as it is written.
func TestSignatures(t *testing.T) {
	for _, c := range []struct {
		x    api.Sign
		want string
	}{
		{sign("ann <a>", 0, 90), "ann <a> 0 +0130"},
		{sign("ann <a>", 0, -90), "ann <a> 0 -0130"},
		{sign("a", 0, 0), "a 0 +0000"},
		{sign("a", 1, 1), "a 1 +0001"},
		{sign("a", 1, -1), "a 1 -0001"},
		{sign("a", 9, 9), "a 9 +0009"},
		{sign("a", 10, 10), "a 10 +0010"},
		{sign("a", 1700000000, -30), "a 1700000000 -0030"},
		{sign("a", 1, 30), "a 1 +0030"},
		{sign("a", 1, 59), "a 1 +0059"},
		{sign("a", 1, -59), "a 1 -0059"},
		{sign("a", 1, 60), "a 1 +0100"},
		{sign("a", 1, -60), "a 1 -0100"},
		{sign("a", 1, 61), "a 1 +0101"},
		{sign("a", 1, 345), "a 1 +0545"},
		{sign("a", 1, 599), "a 1 +0959"},
		{sign("a", 1, 600), "a 1 +1000"},
		{sign("a", 1, -600), "a 1 -1000"},
		{sign("a", 1, 839), "a 1 +1359"},
		{sign("a", MaxTime, MaxZone), "a 253402300799 +1400"},
		{sign("a", MaxTime-1, -MaxZone), "a 253402300798 -1400"},
		{sign(" ", 0, 0), "  0 +0000"},
		{sign(" a  b ", 7, 0), " a  b  7 +0000"},
		{sign("a 0 +0000", 7, 0), "a 0 +0000 7 +0000"},
		{sign(strings.Repeat("w", 100), 7, 0), strings.Repeat("w", 100) + " 7 +0000"},
		{sign("é\xff", 7, 0), "é\xff 7 +0000"},
	} {
		formats(t, api.Change{Tree: someId, Author: c.x, Committer: sign("b", 0, 0)}, "tree "+someId+"\nauthor "+c.want+"\ncommitter b 0 +0000\n\n")
		formats(t, api.Change{Tree: otherId, Author: sign("b", 0, 0), Committer: c.x}, "tree "+otherId+"\nauthor b 0 +0000\ncommitter "+c.want+"\n\n")
		formatsTag(t, api.Label{Object: otherId, Kind: api.Blob, Name: "n", Tagger: c.x}, "object "+otherId+"\ntype blob\ntag n\ntagger "+c.want+"\n\n")
	}
}

// P15.1: each zone there is, written and read.
func TestZones(t *testing.T) {
	for zone := -840; zone <= 840; zone++ {
		hours, mark := zone, "+"
		if zone < 0 {
			hours, mark = -zone, "-"
		}
		c := change()
		c.Author.Zone = zone
		want := fmt.Sprintf("tree %s\nparent %s\nparent %s\nauthor ann <a> 5 %s%02d%02d\ncommitter bob <b> 6 +0530\n\nhi\n", someId, otherId, someId, mark, hours/60, hours%60)
		formats(t, c, want)
	}
}

// P15.1: as many parents as there are, in their order, one also twice.
func TestFormatParents(t *testing.T) {
	for n := range 17 {
		c := change()
		c.Parents = ids(n)
		slices.Reverse(c.Parents)
		if n > 3 {
			c.Parents[3] = c.Parents[0]
		}
		want := "tree " + someId + "\n"
		for _, id := range c.Parents {
			want += "parent " + id + "\n"
		}
		formats(t, c, want+"author ann <a> 5 -0130\ncommitter bob <b> 6 +0530\n\nhi\n")
	}
}

// P15.2: each of the four kinds, and such as are none.
func TestTagKinds(t *testing.T) {
	names := map[int]string{1: "commit", 2: "tree", 3: "blob", 4: "tag"}
	kinds := []int{math.MinInt, math.MaxInt, 1 << 32, 1<<32 + 1}
	for kind := -20; kind < 300; kind++ {
		kinds = append(kinds, kind)
	}
	for _, kind := range kinds {
		l := label()
		l.Kind = kind
		if names[kind] == "" {
			checksTag(t, fmt.Sprint("kind ", kind), l, api.ErrForm)
			continue
		}
		formatsTag(t, l, "object "+someId+"\ntype "+names[kind]+"\ntag v1.0.0\ntagger ann <a> 5 -0130\n\nhi\n")
	}
	checksTag(t, "the zero tag", api.Label{}, api.ErrForm)
}

// P15.2: a tag's Name is a line's text.
func TestTagNames(t *testing.T) {
	for _, name := range []string{"v1", "a", " ", " a ", "a/b", "..", "\xff", "é", "v1\r", "tag v1", strings.Repeat("n", 100)} {
		l := label()
		l.Name = name
		formatsTag(t, l, "object "+someId+"\ntype commit\ntag "+name+"\ntagger ann <a> 5 -0130\n\nhi\n")
	}
	for _, name := range []string{"", "\n", "v1\n", "\nv1", "v\n1", "\x00", "v1\x00", "v\x001", strings.Repeat("n", 101), strings.Repeat("é", 51)} {
		l := label()
		l.Name = name
		checksTag(t, "a Name "+name, l, api.ErrForm)
	}
}
