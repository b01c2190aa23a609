package modfile

import (
	"strings"
	"testing"
)

// paths holds Path against what the document asks.
func paths(t *testing.T, s string, want bool) {
	t.Helper()
	if Path(s) != want {
		t.Errorf("Path(%q): %v", s, !want)
	}
	if pathByWords(s) != want {
		t.Errorf("by the words, %q: %v", s, !want)
	}
}

// filePaths holds FilePath against what the document asks.
func filePaths(t *testing.T, s string, want bool) {
	t.Helper()
	if FilePath(s) != want {
		t.Errorf("FilePath(%q): %v", s, !want)
	}
	if filePathByWords(s) != want {
		t.Errorf("by the words, %q: %v", s, !want)
	}
}

// P22.2: modules' paths, and what isn't one: empty parts, full stops and hyphens at both ends.
func TestPath(t *testing.T) {
	for _, s := range []string{
		"a.b", "example.com", "example.com/a", "example.com/a/v2", "a.b/C_~", "a-.b", "a.b-", "a.-b", "a..b", "a...b", "a--b.c", "0.1", "1.a/0", "9-.-9",
		"a.b/-", "a.b/-c", "a.b/c-", "a.b/_", "a.b/~", "a.b/Z", "a.b/A.b", "a.b/c..d", "a.b/c.d/e.f", "a.b/0", "a.b/~c/_d/-e", "a.b/a.b/a.b", "a.b/c/d/e/f/g/h/i", "gopkg.in/yaml.v2", "a.b/v1/v2",
	} {
		paths(t, s, true)
	}
	for _, s := range []string{
		"", "/", "//", ".", "..", "a", "a/b", "a/b.c", "ab/c.d/e", "-", "-a.b", "-.a", "--a.b", ".a", "a.", ".a.b", "a.b.", "a./b", ".a/b", "./a.b", "../a.b",
		"/a.b", "a.b/", "a.b//c", "//a.b", "a.b/c/", "a.b//", "a.b/c//d", "a.b/.", "a.b/..", "a.b/.c", "a.b/c.", "a.b/c./d", "a.b/.c/d", "a.b/c/.", "a.b/./c", "a.b/../c", "a.b/c/d.",
		"A.b", "a.B", "aA.b", "a_.b", "a.b_", "~a.b", "a.b~", "a_b.c/d", "A.b/c", "a.b~/c",
		"a.b/c d", " a.b", "a.b ", "a.b/ ", "a.b/c\n", "a.b\n", "a.b/é", "é.b", "a.b\x00", "a.b/\xff", "a.b/c+d", "a.b/c@v1", "a.b/c!d", "a.b\\c", "https://a.b/c", "a.b:8080/c", "a.b/c:d", "a.b/(c)", "a.b/c,d", "a.b/c'd", "a.b/\"c\"", "a.b/c#d", "a.b/c?d", "a.b/*",
	} {
		paths(t, s, false)
	}
}

// P22.2: files' paths, and what isn't one.
func TestFilePath(t *testing.T) {
	for _, s := range []string{
		"a", "a/b", "a/b (1).go", "A.go", ".a", "..a", "a..b", "...a", ".git/x", "a/.b", " ", " a", "a ", "a/ /b", "~", "-", "a-", "_", "!#$%&()+,-=@[]^_{}~", "a/b/c/d/e/f", "go.mod", "LICENSE", "0", "a.b/c.d", ".a/.b", ". ", ".-",
	} {
		filePaths(t, s, true)
	}
	for _, s := range []string{
		"", "/", "/a", "a/", "a//b", "//", ".", "..", "...", "a/.", "a/..", "./a", "../a", "a/./b", "a/../b", "a.", "a./b", "a/b.", "a/b./c", "a..", ".a.", " .", "a .", "a/...",
		"a\"b", "a'b", "a*b", "a<b", "a>b", "a?b", "a`b", "a|b", "a\\b", "a:b", "a;b", "\"", "'", "*", "<", ">", "?", "`", "|", "\\", ":", ";", "a/b:", ":a/b", "C:/a", "a\\", "a;", "a/;b",
		"a\n", "\na", "a\x00", "a\x1f", "a\x7f", "\x80", "é", "a/é", "\xff", "a\tb", "a\rb",
	} {
		filePaths(t, s, false)
	}
}

// P22.2: each byte, at the beginning, within and at the end of the first part and of others.
func TestPathBytes(t *testing.T) {
	files := 0
	for c := range 256 {
		b := string([]byte{byte(c)})
		small := strings.Contains("abcdefghijklmnopqrstuvwxyz0123456789-.", b)
		plain := small || strings.Contains("ABCDEFGHIJKLMNOPQRSTUVWXYZ_~", b)
		slash, stop := c == '/', c == '.'
		paths(t, b, false)
		paths(t, "a"+b+"b.c", small)
		paths(t, b+"a.b", small && !stop && c != '-')
		paths(t, "a.b"+b, small && !stop)
		paths(t, b+".a", small && !stop && c != '-')
		paths(t, "a."+b, small && !stop)
		paths(t, "a.b/"+b, plain && !stop)
		paths(t, "a.b/"+b+"c", plain && !stop)
		paths(t, "a.b/c"+b, plain && !stop)
		paths(t, "a.b/c"+b+"d", plain || slash)
		paths(t, "a.b/"+b+"/c", plain && !stop)
		paths(t, "a.b/c/d"+b+"/e", plain && !stop)

		file := c >= 32 && c <= 126 && !slash && !strings.Contains("\"'*<>?`|\\:;", b)
		filePaths(t, b, file && !stop)
		filePaths(t, b+"a", file)
		filePaths(t, "a"+b, file && !stop)
		filePaths(t, "a"+b+"a", file || slash)
		filePaths(t, "a/"+b, file && !stop)
		filePaths(t, b+"/a", file && !stop)
		filePaths(t, "a"+b+"/a", file && !stop)
		filePaths(t, "a/"+b+"a/a", file)
		if file {
			files++
		}
	}
	// 95 bytes from 32 to 126, but for the slash and the eleven that are named.
	if files != 83 {
		t.Errorf("%d bytes may stand in a file's path", files)
	}
}

// P22.2: 200 bytes and 201.
func TestPathLength(t *testing.T) {
	for n := range 400 {
		for _, unit := range []string{"a", "a/", "ab/", "A_~/", "a.a"} {
			s := strings.TrimSuffix("a.b/"+strings.Repeat(unit, n), "/")
			paths(t, s, len(s) <= 200)
			filePaths(t, s, len(s) <= 200)
		}
		if s := "a." + strings.Repeat("b", n); n > 0 {
			paths(t, s, len(s) <= 200)
			filePaths(t, s, len(s) <= 200)
		}
	}
	long := strings.Repeat("a", 196)
	paths(t, "a.b/"+long, true)
	paths(t, "a.b/"+long+"a", false)
	paths(t, "a.b/"+long+"/", false)
	paths(t, "a.b/"+long[1:]+".", false)
	filePaths(t, "aaa/"+long, true)
	filePaths(t, "aaa/"+long+"a", false)
	filePaths(t, "aaa/"+long[1:]+".", false)
	filePaths(t, "aaa/"+long[1:]+":", false)
	for _, s := range []string{strings.Repeat("a.b/", 1<<18), strings.Repeat(".", 1<<20), strings.Repeat("/", 1<<20), strings.Repeat("a.b", 1<<20)} {
		if Path(s) || FilePath(s) {
			t.Errorf("Path or FilePath of %d bytes: true", len(s))
		}
	}
}

// P22.2: all short texts of the bytes that count.
func TestPathShort(t *testing.T) {
	found, files := 0, 0
	var grow func(s string, left int)
	grow = func(s string, left int) {
		want, file := pathByWords(s), filePathByWords(s)
		paths(t, s, want)
		filePaths(t, s, file)
		if want {
			found++
		}
		if file {
			files++
		}
		if left == 0 || t.Failed() {
			return
		}
		for _, c := range []string{"a", ".", "/", "-", "A", "~", ":", " "} {
			grow(s+c, left-1)
		}
	}
	grow("", 5)
	grow("a.b", 5)
	if found < 1000 || files < 10000 {
		t.Errorf("only %d modules' paths, %d files'", found, files)
	}
}
