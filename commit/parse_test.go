package commit

import (
	"fmt"
	"math/big"
	"math/rand"
	"regexp"
	"slices"
	"strconv"
	"strings"
	"testing"

	"cartulary/api"
	"cartulary/object"
)

// parses holds Parse against what the document asks.
func parses(t *testing.T, what, s string, wantE api.Errno, want api.Change) {
	t.Helper()
	c, e := Parse(s)
	if e != wantE || !same(c, want) || e != api.OK && c.Parents != nil {
		t.Errorf("%s: Parse(%.300q): %.300v, %d, not %.300v, %d", what, s, c, e, want, wantE)
	}
	if e != api.OK {
		return
	}
	if again, e := Format(c); again != s || e != api.OK {
		t.Errorf("%s: Format of what Parse told of %.300q: %.300q, %d", what, s, again, e)
	}
}

// parsesTag holds ParseTag against what the document asks.
func parsesTag(t *testing.T, what, s string, wantE api.Errno, want api.Label) {
	t.Helper()
	l, e := ParseTag(s)
	if e != wantE || l != want {
		t.Errorf("%s: ParseTag(%.300q): %.300v, %d, not %.300v, %d", what, s, l, e, want, wantE)
	}
	if e != api.OK {
		return
	}
	if again, e := FormatTag(l); again != s || e != api.OK {
		t.Errorf("%s: FormatTag of what ParseTag told of %.300q: %.300q, %d", what, s, again, e)
	}
}

// fails: Parse answers that error, and nothing beside it.
func fails(t *testing.T, what, s string, want api.Errno) {
	t.Helper()
	parses(t, what, s, want, api.Change{})
}

// failsTag: so does ParseTag.
func failsTag(t *testing.T, what, s string, want api.Errno) {
	t.Helper()
	parsesTag(t, what, s, want, api.Label{})
}

var (
	changeText = regexp.MustCompile(`^tree ([^\n]*)\n((?:parent [^\n]*\n)*)author ([^\n]*)\ncommitter ([^\n]*)\n\n((?s:.*))\z`)
	labelText  = regexp.MustCompile(`^object ([^\n]*)\ntype ([^\n]*)\ntag ([^\n]*)\ntagger ([^\n]*)\n\n((?s:.*))\z`)
	signText   = regexp.MustCompile(`^(.*) (0|-?[1-9][0-9]*) (\+|-)([0-9][0-9])([0-5][0-9])\z`)
	idText     = regexp.MustCompile(`^[0-9a-f]{40}\z`)
)

// signByWords: what is signed, by the document's words; false: it isn't.
func signByWords(s string) (api.Sign, bool) {
	m := signText.FindStringSubmatch(s)
	if m == nil || m[3]+m[4]+m[5] == "-0000" {
		return api.Sign{}, false
	}
	time, _ := new(big.Int).SetString(m[2], 10)
	if !time.IsInt64() {
		return api.Sign{}, false
	}
	hours, _ := strconv.Atoi(m[4])
	minutes, _ := strconv.Atoi(m[5])
	zone := 60*hours + minutes
	if m[3] == "-" {
		zone = -zone
	}
	return sign(m[1], int(time.Int64()), zone), true
}

// rightByWords: is what is signed in form?
func rightByWords(x api.Sign) bool {
	return lineByWords(x.Who) && 0 <= x.Time && x.Time <= 253402300799 && -840 <= x.Zone && x.Zone <= 840
}

// parseByWords: Parse by the document's words.
func parseByWords(s string) (api.Change, api.Errno) {
	m := changeText.FindStringSubmatch(s)
	if m == nil {
		return api.Change{}, api.ErrText
	}
	author, ok1 := signByWords(m[3])
	committer, ok2 := signByWords(m[4])
	if !ok1 || !ok2 {
		return api.Change{}, api.ErrText
	}
	c := api.Change{Tree: m[1], Author: author, Committer: committer, Message: m[5]}
	for _, line := range strings.SplitAfter(m[2], "\n") {
		if line != "" {
			c.Parents = append(c.Parents, line[len("parent "):len(line)-1])
		}
	}
	if len(c.Parents) > 16 {
		return api.Change{}, api.ErrBig
	}
	for _, id := range append([]string{c.Tree}, c.Parents...) {
		if !idText.MatchString(id) {
			return api.Change{}, api.ErrForm
		}
	}
	if !rightByWords(author) || !rightByWords(committer) {
		return api.Change{}, api.ErrForm
	}
	return c, api.OK
}

// parseTagByWords: ParseTag by the document's words.
func parseTagByWords(s string) (api.Label, api.Errno) {
	m := labelText.FindStringSubmatch(s)
	if m == nil {
		return api.Label{}, api.ErrText
	}
	tagger, ok := signByWords(m[4])
	if !ok {
		return api.Label{}, api.ErrText
	}
	kind := 1 + slices.Index([]string{"commit", "tree", "blob", "tag"}, m[2])
	if !idText.MatchString(m[1]) || kind == 0 || !lineByWords(m[3]) || !rightByWords(tagger) {
		return api.Label{}, api.ErrForm
	}
	return api.Label{Object: m[1], Kind: kind, Name: m[3], Tagger: tagger, Message: m[5]}, api.OK
}

// holds holds both readers against the words; it tells the errors.
func holds(t *testing.T, s string) (api.Errno, api.Errno) {
	t.Helper()
	c, e := parseByWords(s)
	parses(t, "by the words", s, e, c)
	l, f := parseTagByWords(s)
	parsesTag(t, "by the words", s, f, l)
	return e, f
}

// P15.1, P15.2: commits and tags of git's making, under the names that git gave them.
func TestGit(t *testing.T) {
	const first, second, merge, tag = "a2f5b8a745ce6709539593f9e80ed09486f0683a", "4b33c5379e03ca2d0135d86766169eb221d59c03", "35bbe6e930c1243f6191aea59d2445aec18c7eb0", "8cb8c3a0693d4265d0592e3012668f209412d218"
	ann := "Ann  B. Cé <ann@example.com>"
	for id, c := range map[string]api.Change{
		first:  {Tree: someId, Author: sign(ann, 1700000000, -30), Committer: sign("dan <>", 1700000001, 840), Message: "first\n"},
		second: {Tree: someId, Parents: []string{first}, Author: sign(ann, 1700000000, -30), Committer: sign("dan <>", 2000000000, 345), Message: "second\n"},
		merge:  {Tree: someId, Parents: []string{first, second}, Author: sign(ann, 1234567890, -840), Committer: sign("dan <>", 1234567891, 0), Message: "merge\n\nwith a body, and no end"},
	} {
		s, e := Format(c)
		if e != api.OK {
			t.Errorf("Format of %s: %d", id, e)
		}
		if got, _ := object.Id(api.Object{Kind: api.Commit, Data: s}); got != id {
			t.Errorf("%q has the name %s, not %s", s, got, id)
		}
		parses(t, id, s, api.OK, c)
	}
	for id, l := range map[string]api.Label{
		tag: {Object: merge, Kind: api.Commit, Name: "v1", Tagger: sign("dan <>", 1234567892, -210), Message: "a tag\n"},
		"18df93853e3d7aad1a2b48747cc48de7d1edd42f": {Object: someId, Kind: api.Tree, Name: "v1-tree", Tagger: sign("dan <>", 1700000001, 840)},
		"03333a3a4715e7bb7d37f0615f56ea5075110e44": {Object: tag, Kind: api.Tag, Name: "v1-tag", Tagger: sign("dan <>", 1234567893, 60), Message: "tag of tag\n"},
	} {
		s, e := FormatTag(l)
		if e != api.OK {
			t.Errorf("FormatTag of %s: %d", id, e)
		}
		if got, _ := object.Id(api.Object{Kind: api.Tag, Data: s}); got != id {
			t.Errorf("%q has the name %s, not %s", s, got, id)
		}
		parsesTag(t, id, s, api.OK, l)
	}
}

// texts: the texts that stand for signed ones, and what is answered of a text with one.
func texts() map[string]api.Errno {
	return map[string]api.Errno{
		"ann <a> 0 +0130": api.OK, "ann 0 +0000": api.OK, "ann 1 -0001": api.OK, "a b c 1 +0000": api.OK, " ann 1 +0000": api.OK, "ann  1 +0000": api.OK, "  1 +0000": api.OK, "1 1 +0000": api.OK,
		"ann 0 +0000 0 +0000": api.OK, "ann 253402300799 +1400": api.OK, "ann 253402300799 -1400": api.OK, "ann 9 -0030": api.OK, "ann\t0 0 +0000": api.OK, "ann\r 0 +0000": api.OK,
		strings.Repeat("w", 100) + " 0 +0000": api.OK,
		// The last two blanks are wanting.
		"": api.ErrText, " ": api.ErrText, "  ": api.ErrText, "   ": api.ErrText, "ann": api.ErrText, "ann +0000": api.ErrText, "0 +0000": api.ErrText, "ann 0": api.ErrText, "ann  +0000": api.ErrText, "ann 0 ": api.ErrText, "ann 0 +0000 ": api.ErrText, "ann 0  +0000": api.ErrText,
		"+0000": api.ErrText, " +0000": api.ErrText, "ann\t0\t+0000": api.ErrText, "ann 0\t+0000": api.ErrText, "ann\t0 +0000": api.ErrText,
		// Times as no int is written.
		"ann 00 +0000": api.ErrText, "ann 01 +0000": api.ErrText, "ann -0 +0000": api.ErrText, "ann +0 +0000": api.ErrText, "ann +1 +0000": api.ErrText, "ann -01 +0000": api.ErrText, "ann --1 +0000": api.ErrText, "ann - +0000": api.ErrText, "ann + +0000": api.ErrText,
		"ann 1.0 +0000": api.ErrText, "ann 1e3 +0000": api.ErrText, "ann 0x1 +0000": api.ErrText, "ann 1_0 +0000": api.ErrText, "ann a +0000": api.ErrText, "ann 1a +0000": api.ErrText, "ann \x00 +0000": api.ErrText, "ann 1\x00 +0000": api.ErrText, "ann １ +0000": api.ErrText, "ann @1 +0000": api.ErrText,
		"ann 9223372036854775808 +0000": api.ErrText, "ann -9223372036854775809 +0000": api.ErrText, "ann 18446744073709551616 +0000": api.ErrText, "ann 18446744073709551617 +0000": api.ErrText, "ann 99999999999999999999 +0000": api.ErrText, "ann 1" + strings.Repeat("0", 400) + " +0000": api.ErrText,
		// Zones as none is written.
		"ann 0 -0000": api.ErrText, "ann 0 +0060": api.ErrText, "ann 0 -0060": api.ErrText, "ann 0 +0160": api.ErrText, "ann 0 +0099": api.ErrText, "ann 0 -0199": api.ErrText, "ann 0 +1360": api.ErrText, "ann 0 +9960": api.ErrText, "ann 0 +9999": api.ErrText,
		"ann 0 +000": api.ErrText, "ann 0 +00000": api.ErrText, "ann 0 -000": api.ErrText, "ann 0 +00130": api.ErrText, "ann 0 +130": api.ErrText, "ann 0 +0": api.ErrText, "ann 0 +": api.ErrText, "ann 0 -": api.ErrText, "ann 0 0000": api.ErrText, "ann 0 00000": api.ErrText, "ann 0 0130": api.ErrText, "ann 0 10130": api.ErrText,
		"ann 0 ++130": api.ErrText, "ann 0 +-130": api.ErrText, "ann 0 --130": api.ErrText, "ann 0 +01-1": api.ErrText, "ann 0 +01:30": api.ErrText, "ann 0 +1:30": api.ErrText, "ann 0 +0_30": api.ErrText, "ann 0 +0a00": api.ErrText, "ann 0 +:000": api.ErrText, "ann 0 +00:0": api.ErrText, "ann 0 +/000": api.ErrText, "ann 0 UTC": api.ErrText, "ann 0 Z": api.ErrText, "ann 0 +0000\r": api.ErrText, "ann 0 +0000\x00": api.ErrText, "ann 0 *0000": api.ErrText, "ann 0 \x000000": api.ErrText, "ann 0 +256000": api.ErrText, "ann 0 +" + strings.Repeat("9", 40): api.ErrText, "ann 0 −0130": api.ErrText,
		// What is signed, but not in form.
		"ann -1 +0000": api.ErrForm, "ann 253402300800 +0000": api.ErrForm, "ann 9223372036854775807 +0000": api.ErrForm, "ann -9223372036854775808 +0000": api.ErrForm, "ann 999999999999 +0000": api.ErrForm,
		"ann 0 +1401": api.ErrForm, "ann 0 -1401": api.ErrForm, "ann 0 +1459": api.ErrForm, "ann 0 +1500": api.ErrForm, "ann 0 -1500": api.ErrForm, "ann 0 +9959": api.ErrForm, "ann 0 -9959": api.ErrForm, "ann 0 +2400": api.ErrForm,
		" 0 +0000": api.ErrForm, "\x00 0 +0000": api.ErrForm, "a\x00b 0 +0000": api.ErrForm, strings.Repeat("w", 101) + " 0 +0000": api.ErrForm, strings.Repeat(" ", 102) + "0 +0000": api.ErrForm,
	}
}

// textFirst: the error of a text which isn't in form besides.
func textFirst(e, form api.Errno) api.Errno {
	if e == api.ErrText {
		return e
	}
	return form
}

// P15.1, P15.2: each of these behind each of the words.
func TestParseSigns(t *testing.T) {
	counted := map[api.Errno]int{}
	for text, want := range texts() {
		counted[want]++
		for _, s := range []string{
			"tree " + someId + "\nauthor " + text + "\ncommitter bob <b> 6 +0530\n\nhi\n",
			"tree " + someId + "\nparent " + otherId + "\nauthor " + text + "\ncommitter bob <b> 6 +0530\n\nhi\n",
			"tree " + someId + "\nauthor bob <b> 6 +0530\ncommitter " + text + "\n\nhi\n",
			"tree " + someId + "\nauthor bob <b> 6 +0530\ncommitter " + text + "\n\n",
		} {
			if e, _ := holds(t, s); e != want {
				t.Errorf("%q: %d by the words, not %d", text, e, want)
			}
			// A text that isn't right counts ahead of what isn't in form and of what is too much.
			fails(t, text+", and no Tree", strings.Replace(s, someId, "none", 1), textFirst(want, api.ErrForm))
			fails(t, text+", and parents too many", strings.Replace(s, "author ", strings.Repeat("parent "+someId+"\n", 17)+"author ", 1), textFirst(want, api.ErrBig))
		}
		s := "object " + someId + "\ntype tree\ntag v1\ntagger " + text + "\n\nhi\n"
		if _, e := holds(t, s); e != want {
			t.Errorf("%q: %d by the words, not %d", text, e, want)
		}
		failsTag(t, text+", and no kind", strings.Replace(s, "type tree", "type trie", 1), textFirst(want, api.ErrForm))
	}
	if counted[api.OK] < 10 || counted[api.ErrText] < 50 || counted[api.ErrForm] < 15 {
		t.Errorf("the texts: %v", counted)
	}
}

// P15.1, P15.2: every text of a sign and four digits, and of five bytes that are nearly that.
func TestParseZones(t *testing.T) {
	for _, mark := range []string{"+", "-", "0", " ", "*"} {
		for n := range 10000 {
			s := fmt.Sprintf("object %s\ntype tree\ntag v1\ntagger ann 5 %s%04d\n\n", someId, mark, n)
			l, e := parseTagByWords(s)
			parsesTag(t, "a zone", s, e, l)
		}
	}
	for at := range 5 {
		for c := range 256 {
			text := []byte("+0130")
			text[at] = byte(c)
			holds(t, "object "+someId+"\ntype tree\ntag v1\ntagger ann 5 "+string(text)+"\n\n")
			holds(t, "tree "+someId+"\nauthor ann 5 "+string(text)+"\ncommitter ann 5 "+string(text)+"\n\n")
		}
	}
}

// P15.1, P15.2: Times at the edges, as they are written and otherwise.
func TestParseTimes(t *testing.T) {
	for _, text := range []string{"0", "1", "9", "10", "253402300799", "253402300800", "9223372036854775807", "9223372036854775808", "9223372036854775806"} {
		for _, front := range []string{"", "0", "00", "+", "-", "-0", "+0", "--", "0x", "0b", "0o", "_", "\x00"} {
			for _, behind := range []string{"", "0", ".", "_", "\x00", "s", "e0"} {
				holds(t, "tree "+someId+"\nauthor ann "+front+text+behind+" +0130\ncommitter b 0 +0000\n\n")
				holds(t, "object "+someId+"\ntype tree\ntag v1\ntagger ann "+front+text+behind+" +0130\n\n")
			}
		}
	}
}

// lines: a commit's and a tag's lines ahead of the empty one.
func lines() [][]string {
	return [][]string{
		{"tree " + someId, "author ann <a> 5 -0130", "committer bob <b> 6 +0530"},
		{"tree " + someId, "parent " + otherId, "author ann <a> 5 -0130", "committer bob <b> 6 +0530"},
		{"tree " + someId, "parent " + otherId, "parent " + someId, "author ann <a> 5 -0130", "committer bob <b> 6 +0530"},
		{"object " + someId, "type blob", "tag v1", "tagger ann <a> 5 -0130"},
	}
}

// joined: lines, each ended, an empty one, a message.
func joined(l []string) string {
	return strings.Join(append(slices.Clone(l), "", "hi\n"), "\n")
}

// P15.1, P15.2: lines that want, stand twice, or in another order; another's line between.
func TestParseLines(t *testing.T) {
	for _, l := range lines() {
		tag := strings.HasPrefix(l[0], "object")
		wrong := func(what string, changed []string) {
			t.Helper()
			e, f := holds(t, joined(changed))
			if !tag && e != api.ErrText || tag && f != api.ErrText {
				t.Errorf("%s: %q: %d, %d", what, changed, e, f)
			}
		}
		e, f := holds(t, joined(l))
		if !tag && e != api.OK || tag && f != api.OK {
			t.Errorf("%q: %d, %d", l, e, f)
		}
		for i := range l {
			if strings.HasPrefix(l[i], "parent") {
				continue
			}
			wrong("one wants", slices.Delete(slices.Clone(l), i, i+1))
			wrong("one stands twice", slices.Insert(slices.Clone(l), i, l[i]))
			for k := range i {
				changed := slices.Clone(l)
				changed[i], changed[k] = changed[k], changed[i]
				wrong("another order", changed)
			}
			wrong("only these", l[:i])
		}
		for i := range len(l) + 1 {
			for _, more := range []string{"", " ", "x", "encoding UTF-8", "gpgsig x", "mergetag object " + someId, "Tree " + someId, " tree " + someId, "#"} {
				// An empty line at the end is the one that has to be there; the next one is the message's.
				if i < len(l) || more != "" {
					wrong("another line", slices.Insert(slices.Clone(l), i, more))
				}
			}
		}
		wrong("none", nil)
	}
	for at, want := range []api.Errno{api.ErrText, api.OK, api.OK, api.ErrText, api.ErrText} {
		changed := slices.Insert(slices.Clone(lines()[1]), at, "parent "+someId)
		if e, _ := holds(t, joined(changed)); e != want {
			t.Errorf("a parent at %d: %d, not %d", at, e, want)
		}
	}
}

// P15.1, P15.2: words in other letters, without a blank, with two, with another one.
func TestParseWords(t *testing.T) {
	for _, l := range lines() {
		for i, line := range l {
			word, rest, _ := strings.Cut(line, " ")
			for _, other := range []string{word + rest, word, word + "\t" + rest, " " + line, strings.ToUpper(line), word[1:] + " " + rest, word + "s " + rest, word + ": " + rest, "\x00" + line, strings.ToUpper(word[:1]) + line[1:], "\r" + line, "", " ", rest, word[:len(word)-1] + " " + rest} {
				changed := slices.Clone(l)
				changed[i] = other
				e, f := holds(t, joined(changed))
				if e != api.ErrText || f != api.ErrText {
					t.Errorf("%q: %d, %d", changed, e, f)
				}
			}
			// Of a name or a kind, a byte more or nothing at all is another text, but a line all the same.
			for _, other := range []string{word + "  " + rest, line + " ", line + "\r", word + " ", line + "\x00", line + line} {
				changed := slices.Clone(l)
				changed[i] = other
				e, f := holds(t, joined(changed))
				named := slices.Contains([]string{"tree", "parent", "object", "type"}, word)
				if named && (max(e, f) != api.ErrForm || min(e, f) != api.ErrText) {
					t.Errorf("%q: %d, %d", changed, e, f)
				}
			}
		}
	}
}

// P15.1, P15.2: each beginning of a text: up to the empty line's end something wants.
func TestParseBeginnings(t *testing.T) {
	for _, l := range lines() {
		s := joined(l)
		whole := strings.Index(s, "\n\n") + 2
		for n := range len(s) + 1 {
			e, f := holds(t, s[:n])
			if n < whole && (e != api.ErrText || f != api.ErrText) || n >= whole && min(e, f) != api.OK {
				t.Errorf("%q: %d, %d", s[:n], e, f)
			}
		}
	}
	for _, s := range []string{"", "\n", "\n\n", " ", "\x00", "hi", "tree", "object", "tree \n", "object \n", "blob 0\x00", strings.Repeat("\n", 1000), strings.Repeat("parent \n", 1000)} {
		if e, f := holds(t, s); e != api.ErrText || f != api.ErrText {
			t.Errorf("%q: %d, %d", s, e, f)
		}
	}
	// Neither is the other one.
	if e, f := holds(t, joined(lines()[0])); e != api.OK || f != api.ErrText {
		t.Errorf("a commit: %d, %d", e, f)
	}
	if e, f := holds(t, joined(lines()[3])); e != api.ErrText || f != api.OK {
		t.Errorf("a tag: %d, %d", e, f)
	}
}

// P15.1: names that are none, and parents too many, which count ahead of those and behind the text.
func TestParseForm(t *testing.T) {
	ends := "author ann <a> 5 -0130\ncommitter bob <b> 6 +0530\n\nhi\n"
	for _, id := range noIds() {
		if strings.Contains(id, "\n") {
			continue
		}
		fails(t, "a Tree", "tree "+id+"\n"+ends, api.ErrForm)
		fails(t, "a parent", "tree "+someId+"\nparent "+id+"\n"+ends, api.ErrForm)
		fails(t, "a second parent", "tree "+someId+"\nparent "+someId+"\nparent "+id+"\n"+ends, api.ErrForm)
		fails(t, "a parent without an end", "tree "+someId+"\nparent "+id, api.ErrText)
		fails(t, "a Tree, and no author", "tree "+id+"\n"+ends[len("author ann <a> 5 -0130\n"):], api.ErrText)
		fails(t, "a Tree, and no empty line", strings.Replace("tree "+id+"\n"+ends, "\n\n", "\n", 1), api.ErrText)
		failsTag(t, "an Object", "object "+id+"\ntype blob\ntag v1\ntagger ann <a> 5 -0130\n\n", api.ErrForm)
		failsTag(t, "an Object, and no empty line", "object "+id+"\ntype blob\ntag v1\ntagger ann <a> 5 -0130\n", api.ErrText)
	}
	for _, n := range []int{17, 18, 1000, 20000} {
		parents := strings.Repeat("parent "+someId+"\n", n)
		fails(t, "parents too many", "tree "+someId+"\n"+parents+ends, api.ErrBig)
		fails(t, "and no Tree", "tree \n"+parents+ends, api.ErrBig)
		fails(t, "that are no names", "tree "+someId+"\n"+strings.Repeat("parent \n", n)+ends, api.ErrBig)
		fails(t, "and an author who isn't in form", "tree "+someId+"\n"+parents+strings.Replace(ends, "ann <a> 5", "ann <a> -5", 1), api.ErrBig)
		fails(t, "and an author who isn't signed", "tree "+someId+"\n"+parents+strings.Replace(ends, "ann <a> 5", "ann <a> +5", 1), api.ErrText)
		fails(t, "and no end", "tree "+someId+"\n"+parents, api.ErrText)
	}
	sixteen := "tree " + someId + "\n" + strings.Repeat("parent "+otherId+"\n", 16) + ends
	parses(t, "sixteen parents", sixteen, api.OK, api.Change{Tree: someId, Parents: slices.Repeat([]string{otherId}, 16), Author: sign("ann <a>", 5, -90), Committer: sign("bob <b>", 6, 330), Message: "hi\n"})
}

// P15.2: kinds' names that are none, and Names that are no line's text.
func TestParseTagForm(t *testing.T) {
	for _, kind := range []string{"", "trie", "Tree", "TREE", "tree ", " tree", "commits", "commi", "1", "0", "tag\x00", "tag\r", "blob tree", "é"} {
		failsTag(t, "kind "+kind, "object "+someId+"\ntype "+kind+"\ntag v1\ntagger ann <a> 5 -0130\n\n", api.ErrForm)
		failsTag(t, "kind "+kind+", and no tagger", "object "+someId+"\ntype "+kind+"\ntag v1\ntagger ann <a> -0130\n\n", api.ErrText)
	}
	for _, name := range []string{"", "\x00", "a\x00", strings.Repeat("n", 101)} {
		failsTag(t, "a Name", "object "+someId+"\ntype tree\ntag "+name+"\ntagger ann <a> 5 -0130\n\n", api.ErrForm)
	}
}

// someSign: one that is in form.
func someSign(random *rand.Rand) api.Sign {
	who := make([]byte, 1+random.Intn(12))
	for i := range who {
		who[i] = " ab<>0+-1\xff\r"[random.Intn(11)]
	}
	return sign(string(who), random.Intn(MaxTime+1)>>random.Intn(38), random.Intn(2*MaxZone+1)-MaxZone)
}

// someChange: a commit in form.
func someChange(random *rand.Rand) api.Change {
	c := api.Change{Tree: fmt.Sprintf("%040x", random.Uint64()), Author: someSign(random), Committer: someSign(random)}
	for range random.Intn(5) * random.Intn(5) {
		c.Parents = append(c.Parents, fmt.Sprintf("%040x", random.Uint64()))
	}
	for range random.Intn(20) {
		c.Message += []string{"\n", "\x00", "a", " ", "tree ", "author a 0 +0000\n", "\xff"}[random.Intn(7)]
	}
	return c
}

// someLabel: a tag in form.
func someLabel(random *rand.Rand) api.Label {
	c := someChange(random)
	return api.Label{Object: c.Tree, Kind: 1 + random.Intn(4), Name: c.Author.Who, Tagger: c.Committer, Message: c.Message}
}

// P15.3: what was written is read as it was, and what was read is written as it was.
func TestReadBack(t *testing.T) {
	random := rand.New(rand.NewSource(15))
	for range 5000 {
		c := someChange(random)
		s, e := Format(c)
		if e != api.OK {
			t.Fatalf("Format(%v): %d", c, e)
		}
		parses(t, "what was written", s, api.OK, c)
		l := someLabel(random)
		s, e = FormatTag(l)
		if e != api.OK {
			t.Fatalf("FormatTag(%v): %d", l, e)
		}
		parsesTag(t, "what was written", s, api.OK, l)
	}
}

// spoilt: a byte other, less or more, a line less or twice, or the end left out.
func spoilt(random *rand.Rand, s string) string {
	if s == "" {
		return "\n"
	}
	i := random.Intn(len(s))
	c := "\n\x00 +-0159aA\xff"[random.Intn(12)]
	l := strings.SplitAfter(s, "\n")
	k := random.Intn(len(l))
	switch random.Intn(7) {
	case 0:
		return s[:i] + string([]byte{c}) + s[i+1:]
	case 1:
		return s[:i] + s[i+1:]
	case 2:
		return s[:i] + string([]byte{c}) + s[i:]
	case 3:
		return s[:i]
	case 4:
		return strings.Join(slices.Delete(l, k, k+1), "")
	case 5:
		return strings.Join(slices.Insert(l, k, l[k]), "")
	}
	at := strings.IndexAny(s, "+-")
	if at < 0 {
		return s
	}
	return s[:at+1] + fmt.Sprintf("%04d", random.Intn(10000)) + s[min(at+5, len(s)):]
}

// P15.1 to P15.3: spoilt bytes against the words; what is read is written again as it was.
func TestParseSpoilt(t *testing.T) {
	random := rand.New(rand.NewSource(16))
	counted := map[api.Errno]int{}
	for i := range 40000 {
		var s string
		if i%2 == 0 {
			s, _ = Format(someChange(random))
		} else {
			s, _ = FormatTag(someLabel(random))
		}
		for range 1 + random.Intn(2) {
			s = spoilt(random, s)
		}
		e, f := holds(t, s)
		if i%2 == 0 {
			counted[e]++
		} else {
			counted[f]++
		}
	}
	for e, least := range map[api.Errno]int{api.OK: 3000, api.ErrText: 3000, api.ErrForm: 1000, api.ErrBig: 20} {
		if counted[e] < least {
			t.Errorf("only %d times %d", counted[e], e)
		}
	}
}

// P15.4: what is handed in, and the spare room behind it, stays as it is; whoever changes it or an answer changes no other answer.
func TestMemory(t *testing.T) {
	random := rand.New(rand.NewSource(17))
	for range 500 {
		c := someChange(random)
		whole := append(slices.Clone(c.Parents), "behind", "and more")
		kept := slices.Clone(whole)
		n := len(c.Parents)
		c.Parents = whole[:n]
		Check(c)
		s, _ := Format(c)
		if !slices.Equal(whole, kept) || len(c.Parents) != n {
			t.Fatalf("changed: %q, not %q", whole, kept)
		}
		for i := range whole {
			whole[i] = "changed"
		}
		one, _ := Parse(s)
		two, _ := Parse(s)
		if !slices.Equal(one.Parents, kept[:n]) {
			t.Errorf("Parse(%q): %q", s, one.Parents)
		}
		for i := range one.Parents {
			one.Parents[i] = ""
		}
		_ = append(one.Parents[:0], whole...)
		if !slices.Equal(two.Parents, kept[:n]) {
			t.Errorf("another answer: %q", two.Parents)
		}
		if three, _ := Parse(s); !same(two, three) {
			t.Errorf("a later answer: %v, not %v", three, two)
		}
		// A commit that is refused isn't changed either.
		bad := api.Change{Parents: slices.Repeat([]string{"none"}, random.Intn(20))}
		seen := slices.Clone(bad.Parents)
		Check(bad)
		Format(bad)
		if !slices.Equal(bad.Parents, seen) {
			t.Errorf("changed: %q", bad.Parents)
		}
	}
}

// P15.1: a panic that isn't the reader's own is no error of the text.
func TestOtherPanics(t *testing.T) {
	defer func() {
		if cause := recover(); cause != "another" {
			t.Errorf("told as %v", cause)
		}
	}()
	e := attempt(func() { panic("another") })
	t.Errorf("taken for %d", e)
}
