package modfile

import (
	"fmt"
	"regexp"
	"slices"
	"strings"
	"testing"

	"cartulary/api"
)

var (
	stringForm = regexp.MustCompile(`\A"(?:[^"\\]|\\["\\nt])*"`)
	rawForm    = regexp.MustCompile("\\A`[^`]*`")
	// What a line may be, outside of a block and in one: w a word or a string, e an empty string.
	plainShape = regexp.MustCompile(`\A(w[we]*)?\z`)
	openShape  = regexp.MustCompile(`\Aw\(\z`)
	innerShape = regexp.MustCompile(`\A[we]*\z`)
	unescaped  = strings.NewReplacer(`\"`, `"`, `\\`, `\`, `\n`, "\n", `\t`, "\t")
)

// wordLength: how many bytes the word has with which a text begins.
func wordLength(s string) int {
	n := 0
	for n < len(s) && strings.IndexByte(" \t\r()\"`", s[n]) < 0 && !strings.HasPrefix(s[n:], "//") {
		n++
	}
	return n
}

// lineByWords: the shape of a line (without its end), and what its words say; false: a string is wrong.
func lineByWords(s string) (shape []byte, words []string, ok bool) {
	put := func(text string) {
		words = append(words, text)
		if text == "" {
			shape = append(shape, 'e')
		} else {
			shape = append(shape, 'w')
		}
	}
	for s != "" && !strings.HasPrefix(s, "//") {
		switch c := s[0]; c {
		case ' ', '\t', '\r':
			s = s[1:]
		case '(', ')':
			shape = append(shape, c)
			s = s[1:]
		case '"', '`':
			form := stringForm
			if c == '`' {
				form = rawForm
			}
			m := form.FindString(s)
			if m == "" {
				return nil, nil, false
			}
			text := m[1 : len(m)-1]
			if c == '"' {
				text = unescaped.Replace(text)
			}
			put(text)
			s = s[len(m):]
		default:
			n := wordLength(s)
			put(s[:n])
			s = s[n:]
		}
	}
	return shape, words, true
}

// parseByWords: the document's words on Parse.
func parseByWords(s string) (lines []Line, at int, e api.Errno) {
	if len(s) > 65536 {
		return nil, 0, api.ErrBig
	}
	open, verb := false, ""
	texts := strings.Split(s, "\n")
	for i, text := range texts {
		told, words, ok := lineByWords(text)
		shape := string(told)
		switch {
		case !ok:
			return nil, i + 1, api.ErrText
		case open && shape == ")":
			open = false
		case open && innerShape.MatchString(shape):
			if shape != "" {
				lines = append(lines, Line{verb, words, i + 1})
			}
		case !open && openShape.MatchString(shape):
			open, verb = true, words[0]
		case !open && plainShape.MatchString(shape):
			if shape != "" {
				lines = append(lines, Line{words[0], words[1:], i + 1})
			}
		default:
			return nil, i + 1, api.ErrText
		}
	}
	if open {
		return nil, len(texts), api.ErrText
	}
	return lines, 0, api.OK
}

var (
	firstForm = regexp.MustCompile(`\A[a-z0-9.-]+\z`)
	otherForm = regexp.MustCompile(`\A[a-zA-Z0-9._~-]+\z`)
	fileForm  = regexp.MustCompile(`\A[-A-Za-z0-9!#$%&()+,.=@\[\]^_{}~ /]{1,200}\z`)
)

// pathByWords: the document's words on a module's path.
func pathByWords(s string) bool {
	for i, part := range strings.Split(s, "/") {
		if part == "" || part[0] == '.' || part[len(part)-1] == '.' || !otherForm.MatchString(part) {
			return false
		}
		if i == 0 && (!firstForm.MatchString(part) || !strings.Contains(part, ".") || part[0] == '-') {
			return false
		}
	}
	return len(s) <= 200
}

// filePathByWords: the document's words on a file's path, by the bytes that may stand there.
func filePathByWords(s string) bool {
	for _, part := range strings.Split(s, "/") {
		if part == "" || part[len(part)-1] == '.' {
			return false
		}
	}
	return fileForm.MatchString(s)
}

// moduleByWords: the document's words on Module.
func moduleByWords(s string) (string, int, api.Errno) {
	lines, at, e := parseByWords(s)
	if e != api.OK {
		return "", at, e
	}
	lines = slices.DeleteFunc(lines, func(l Line) bool { return l.Verb != "module" })
	switch {
	case len(lines) == 0:
		return "", 0, api.ErrAbsent
	case len(lines[0].Words) != 1 || !pathByWords(lines[0].Words[0]):
		return "", lines[0].At, api.ErrForm
	case len(lines) > 1:
		return "", lines[1].At, api.ErrDouble
	}
	return lines[0].Words[0], 0, api.OK
}

func sameLine(a, b Line) bool {
	return a.Verb == b.Verb && slices.Equal(a.Words, b.Words) && a.At == b.At
}

// short: the beginning of what is told of directives.
func short(lines []Line) string {
	s := fmt.Sprintf("%+v", lines)
	return s[:min(len(s), 200)]
}

// holds: Parse and Module answer what the words ask; it tells whether Parse answers OK.
func holds(t *testing.T, s string) bool {
	t.Helper()
	lines, at, e := Parse(s)
	want, wantAt, wantE := parseByWords(s)
	if !slices.EqualFunc(lines, want, sameLine) || at != wantAt || e != wantE {
		t.Errorf("Parse(%.200q): %s, %d, %d, not %s, %d, %d", s, short(lines), at, e, short(want), wantAt, wantE)
	}
	path, at, e := Module(s)
	wantPath, wantAt, wantModule := moduleByWords(s)
	if path != wantPath || at != wantAt || e != wantModule {
		t.Errorf("Module(%.200q): %q, %d, %d, not %q, %d, %d", s, path, at, e, wantPath, wantAt, wantModule)
	}
	return wantE == api.OK
}

// line: a directive.
func line(at int, verb string, words ...string) Line {
	return Line{Verb: verb, Words: words, At: at}
}

// parses: a text has these directives.
func parses(t *testing.T, s string, want ...Line) {
	t.Helper()
	lines, at, e := Parse(s)
	if !slices.EqualFunc(lines, want, sameLine) || at != 0 || e != api.OK {
		t.Errorf("Parse(%.200q): %s, %d, %d, not %s", s, short(lines), at, e, short(want))
	}
	holds(t, s)
}

// fails: Parse and Module of a text answer this error and line.
func fails(t *testing.T, s string, want int, wantE api.Errno) {
	t.Helper()
	if lines, at, e := Parse(s); len(lines) != 0 || at != want || e != wantE {
		t.Errorf("Parse(%.200q): %s, %d, %d, not %d, %d", s, short(lines), at, e, want, wantE)
	}
	if path, at, e := Module(s); path != "" || at != want || e != wantE {
		t.Errorf("Module(%.200q): %q, %d, %d, not %d, %d", s, path, at, e, want, wantE)
	}
	holds(t, s)
}
