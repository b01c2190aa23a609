package refs

import (
	"regexp"
	"slices"
	"strings"
	"testing"

	"cartulary/snap"
)

var oddText = regexp.MustCompile(`\.\.|@\{|[ ~^:?*\[\\]|\.\z|/\.|\.lock(/|\z)`)

// nameByWords: the document's words on a reference's name.
func nameByWords(s string) bool {
	if s == "HEAD" {
		return true
	}
	for _, part := range strings.Split(s, "/") {
		if part == "" || part == "." || part == ".." {
			return false
		}
	}
	for _, c := range []byte(s) {
		if c < 32 || c > 126 {
			return false
		}
	}
	return len(s) <= 200 && s[:min(5, len(s))] == "refs/" && !oddText.MatchString(s)
}

// named holds Name against what the document asks.
func named(t *testing.T, s string, want bool) {
	t.Helper()
	if Name(s) != want {
		t.Errorf("Name(%q): %v", s, !want)
	}
	if nameByWords(s) != want {
		t.Errorf("by the words, %q: %v", s, !want)
	}
}

// P16.1: the names that the document tells, and those around them.
func TestName(t *testing.T) {
	for _, s := range []string{
		"HEAD", "refs/tags/v1.0.0", "refs/heads/main", "refs/a", "refs/a/b/c", "refs/refs/refs", "refs/HEAD", "refs/heads/HEAD",
		"refs/@", "refs/heads/@", "refs/a@b", "refs/@/a", "refs/a@", "refs/{", "refs/a{b}", "refs/@a{", "refs/{@", "refs/}@", "refs/a@/{",
		"refs/a.b", "refs/a./b", "refs/a.b.c/d.e", "refs/lock", "refs/a.locks", "refs/a.lock1/b", "refs/alock", "refs/a.LOCK", "refs/a.loc", "refs/a/lock", "refs/a.lock.b", "refs/a-lock",
		"refs/a,b", "refs/,", "refs/a,", "refs/!", "refs/\"", "refs/#", "refs/$", "refs/%", "refs/&", "refs/'", "refs/(a)", "refs/+", "refs/-", "refs/-a", "refs/;", "refs/<a>", "refs/=", "refs/]", "refs/_", "refs/`", "refs/|", "refs/0",
	} {
		named(t, s, true)
	}
	for _, s := range []string{
		"", "main", "head", "Head", "HEAD ", " HEAD", "HEAD/", "HEAD/a", "HEADS", "HEA", "HEAD\n", "FETCH_HEAD", "ORIG_HEAD", "@", "/", ".", "..", "heads/main", "tags/v1",
		"refs", "refs/", "refs//", "refs//a", "refs/a//b", "refs/a/", "/refs/a", "./refs/a", "Refs/a", "REFS/a", "refs.a", "ref/a", "refsa", "refs\\a", " refs/a", "a/refs/b", "xrefs/a", "refs/heads/",
		"refs/.", "refs/..", "refs/./a", "refs/../a", "refs/a/.", "refs/a/..", "refs/a..b", "refs/a..", "refs/..a", "refs/a...b", "refs/a../b",
		"refs/.a", "refs/a/.b", "refs/.a/b", "refs/a/.b/c", "refs/a.", "refs/a/b.", "refs/a.b.",
		"refs/a.lock", "refs/.lock", "refs/a.lock/b", "refs/a/b.lock", "refs/a/b.lock/c", "refs/a.lock.lock", "refs/a.b.lock",
		"refs/@{", "refs/a@{b", "refs/a@{", "refs/@{1}", "refs/a@{/b", "refs/a@@{",
		"refs/ ", "refs/a b", "refs/ a", "refs/a ", "refs/~", "refs/a~1", "refs/^", "refs/a^", "refs/:", "refs/a:b", "refs/?", "refs/a?", "refs/*", "refs/a*b", "refs/[", "refs/a[b]", "refs/\\", "refs/a\\b",
		"refs/a\x00", "refs/a\n", "refs/\t", "refs/a\x1f", "refs/a\x7f", "refs/\x80", "refs/é", "refs/\xff",
	} {
		named(t, s, false)
	}
}

// P16.1: each byte, at the beginning of a part, in its midst, at its end, at the end of all.
func TestNameBytes(t *testing.T) {
	barred := 0
	for c := range 256 {
		b := string([]byte{byte(c)})
		plain := c > 32 && c < 127 && !strings.Contains(`~^:?*[\`, b)
		if c >= 32 && c < 127 && !plain {
			barred++
		}
		named(t, "refs/a"+b+"a", plain)
		named(t, "refs/a/a"+b+"a/a", plain)
		named(t, "refs/"+b, plain && c != '.' && c != '/')
		named(t, "refs/"+b+"a", plain && c != '.' && c != '/')
		named(t, "refs/a/"+b+"a", plain && c != '.' && c != '/')
		named(t, "refs/a"+b, plain && c != '.' && c != '/')
		named(t, "refs/a/"+b, plain && c != '.' && c != '/')
		named(t, "refs/a"+b+"/a", plain && c != '/')
		named(t, "refs/a"+b+"lock", plain && c != '.')
		named(t, "refs/a.loc"+b, plain && c != 'k' && c != '.' && c != '/')
		named(t, "refs/a.lock"+b+"a", plain && c != '/')
		named(t, "refs/a@"+b+"a", plain && c != '{')
		named(t, "refs/a"+b+"{a", plain && c != '@')
		named(t, "refs/a."+b+"a", plain && c != '.')
		named(t, "refs"+b+"a", c == '/')
		named(t, b+"refs/a", false)
		named(t, "HEAD"+b, false)
		named(t, b, false)
	}
	if barred != 8 {
		t.Errorf("%d bytes are barred", barred)
	}
}

// P16.1: paths that are too long, and such as just aren't.
func TestNameLength(t *testing.T) {
	for n := range 300 {
		want := n >= 1 && n+len("refs/") <= 200
		named(t, "refs/"+strings.Repeat("a", n), want)
		named(t, "refs/"+strings.Repeat(",", n), want)
		if n > 1 {
			named(t, "refs/"+strings.Repeat("a", n-2)+"/", false)
		}
		named(t, "refs"+strings.Repeat("/a", n), n >= 1 && 4+2*n <= 200)
		named(t, strings.Repeat("HEAD", n), n == 1)
	}
}

// P16.1: all short texts of the bytes that count; each name but HEAD is a path.
func TestNameShort(t *testing.T) {
	var found []string
	var grow func(text string, left int)
	grow = func(text string, left int) {
		want := nameByWords(text)
		if Name(text) != want {
			t.Errorf("Name(%q): %v", text, !want)
		}
		if want {
			found = append(found, text)
		}
		if left == 0 {
			return
		}
		for _, c := range []string{".", "/", "@", "{", "a", ".lock", "^", ",", "~"} {
			grow(text+c, left-1)
		}
	}
	grow("refs", 2)
	grow("refs/", 5)
	grow("refs/a", 5)
	if len(found) < 10000 {
		t.Errorf("only %d names", len(found))
	}
	for _, s := range found {
		if !snap.Clean(s) {
			t.Errorf("%q is no path", s)
		}
	}
	if !slices.Contains(found, "refs/a./a") {
		t.Error("a full stop at a part's end")
	}
}
