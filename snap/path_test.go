package snap

import (
	"regexp"
	"strings"
	"testing"
)

var pathBytes = regexp.MustCompile(`^[ -~]{1,200}\z`)

// pathByWords: the document's words on a path, put another way than Clean puts them.
func pathByWords(text string) bool {
	bounded := "/" + text + "/"
	return pathBytes.MatchString(text) &&
		!strings.Contains(bounded, "//") && !strings.Contains(bounded, "/./") && !strings.Contains(bounded, "/../")
}

// P7.1: all short texts of the bytes that count.
func TestCleanShort(t *testing.T) {
	paths := 0
	var grow func(text string)
	grow = func(text string) {
		want := pathByWords(text)
		if Clean(text) != want {
			t.Errorf("Clean(%q): %v", text, !want)
		}
		if want {
			paths++
		}
		if len(text) == 6 {
			return
		}
		for _, c := range []string{"a", ".", "/", " ", "~", "\x1f", "\x7f"} {
			grow(text + c)
		}
	}
	grow("")
	if paths < 1000 {
		t.Errorf("only %d paths", paths)
	}
}

// P7.1: each byte: as a part of its own, and first, last and in the midst of one.
func TestCleanBytes(t *testing.T) {
	for c := range 256 {
		b := string([]byte{byte(c)})
		plain := c >= 32 && c <= 126 && c != '/'
		for text, want := range map[string]bool{
			b:              plain && c != '.',
			b + "/a":       plain && c != '.',
			"a/" + b:       plain && c != '.',
			"a/" + b + "a": plain,
			"a/a" + b:      plain,
			"a" + b + "a":  plain || c == '/',
		} {
			if Clean(text) != want {
				t.Errorf("Clean(%q): %v", text, !want)
			}
		}
	}
}

// P7.1: parts that are empty, `.` or `..`, and parts that only look like these.
func TestCleanParts(t *testing.T) {
	for _, part := range []string{"", ".", ".."} {
		for _, text := range []string{part, part + "/a", "a/" + part, "a/" + part + "/b", part + "/" + part} {
			if Clean(text) {
				t.Errorf("Clean(%q): true", text)
			}
		}
	}
	for _, part := range []string{"...", ".a", "a.", "..a", "a..", ". ", " .", " ", "~", "a b", "\\", ".git", "C:"} {
		for _, text := range []string{part, part + "/a", "a/" + part, "a/" + part + "/b", part + "/" + part} {
			if !Clean(text) {
				t.Errorf("Clean(%q): false", text)
			}
		}
	}
	for _, text := range []string{"a/é", "\xff", "a\n", "\na", "\ta", "a\x00", "\x00"} {
		if Clean(text) {
			t.Errorf("Clean(%q): true", text)
		}
	}
}

// P7.1: 1 to 200 bytes, with and without slashes.
func TestCleanLength(t *testing.T) {
	for n := range 400 {
		for _, unit := range []string{"a", " ", "a/", "ab/", "..a/"} {
			text := strings.Repeat(unit, n)
			if strings.HasSuffix(text, "/") {
				text = text[:len(text)-1]
			}
			want := len(text) >= 1 && len(text) <= 200
			if Clean(text) != want {
				t.Errorf("Clean of %d bytes %q: %v", len(text), unit, !want)
			}
		}
	}
	long := strings.Repeat("a", 199)
	for text, want := range map[string]bool{long + "a": true, long + "/": false, long[:198] + "/a": true, long + "/a": false, long + "\x01": false, long[:198] + "/.": false} {
		if Clean(text) != want {
			t.Errorf("Clean(..%q), %d bytes: %v", text[190:], len(text), !want)
		}
	}
}
