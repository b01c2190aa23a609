package modfile

import (
	"math/rand"
	"slices"
	"strings"
	"testing"

	"cartulary/api"
)

// P22.1: the document's examples.
func TestParseExamples(t *testing.T) {
	parses(t, "module example.com/a // x\nrequire (\nb v1 \"c d\"\n)", line(1, "module", "example.com/a"), line(3, "require", "b", "v1", "c d"))
	parses(t, "module example.com/a // x\nrequire (\n\tb v1 \"c d\"\n)\n", line(1, "module", "example.com/a"), line(3, "require", "b", "v1", "c d"))
	parses(t, "module (\nexample.com/a\n)", line(2, "module", "example.com/a"))
	fails(t, "\"x", 1, api.ErrText)
	fails(t, "a (", 1, api.ErrText)
	fails(t, "a ( b )\n)", 1, api.ErrText)
}

const everyday = `// A remark ahead.

module example.com/a/v2 // the path

go 1.27

require example.com/b v1.2.3
require (
	example.com/c v0.0.0-20060102150405-abcdefabcdef // indirect

	// a remark alone
	"example.com/d" v2.0.0+incompatible
)

replace example.com/b => ../b
`

// P22.1: a go.mod as it is written every day.
func TestParseEveryday(t *testing.T) {
	parses(t, everyday,
		line(3, "module", "example.com/a/v2"),
		line(5, "go", "1.27"),
		line(7, "require", "example.com/b", "v1.2.3"),
		line(9, "require", "example.com/c", "v0.0.0-20060102150405-abcdefabcdef"),
		line(12, "require", "example.com/d", "v2.0.0+incompatible"),
		line(15, "replace", "example.com/b", "=>", "../b"))
}

// P22.1: empty texts and empty lines, with and without a last line's end.
func TestParseEmpty(t *testing.T) {
	for _, s := range []string{"", "\n", "\n\n\n", " ", "\t", "\r", "\r\n", " \t\r\n \t\r", "//", "// x", "//\n", "// \"x\n", "// (\n//)", "//////", "  // `\n\n", strings.Repeat("\n", 65536)} {
		parses(t, s)
	}
	for _, end := range []string{"", "\n", "\r\n", " ", "\n\n", " // x", "//x\n", "\r"} {
		parses(t, "a b"+end, line(1, "a", "b"))
		parses(t, "\n\na"+end, line(3, "a"))
		parses(t, "a\nb c"+end, line(1, "a"), line(2, "b", "c"))
		parses(t, "a (\nb\n)"+end, line(2, "a", "b"))
	}
}

// P22.1: the blanks 32, 9 and 13.
func TestParseBlanks(t *testing.T) {
	for _, b := range []string{" ", "\t", "\r", "  ", "\r\t ", " \r"} {
		parses(t, "a"+b+"b", line(1, "a", "b"))
		parses(t, b+"a"+b+"b"+b+"\n"+b+"c"+b, line(1, "a", "b"), line(2, "c"))
		parses(t, b+"a"+b+"("+b+"\n"+b+"b"+b+"c"+b+"\n"+b+")"+b, line(2, "a", "b", "c"))
		parses(t, b+"\"a\""+b+"\"\""+b+"`b`"+b, line(1, "a", "", "b"))
		// In strings they stand for themselves.
		parses(t, "\"a"+b+"\" `"+b+"b`", line(1, "a"+b, b+"b"))
	}
}

// P22.1: remarks at a line's beginning, behind words, right behind a word, a string, a bracket; what isn't one.
func TestParseRemarks(t *testing.T) {
	for _, r := range []string{"//", "// x", "//x \"", "//`", "//(", "//)", "// // /", "//\\", "///", "//\r", "//\x00\xff"} {
		parses(t, r)
		parses(t, "a"+r, line(1, "a"))
		parses(t, "a "+r, line(1, "a"))
		parses(t, "a b"+r+"\nc", line(1, "a", "b"), line(2, "c"))
		parses(t, "\"a\""+r, line(1, "a"))
		parses(t, "`a`"+r+"\nb", line(1, "a"), line(2, "b"))
		parses(t, "a ("+r+"\n"+r+"\nb"+r+"\n)"+r+"\nc"+r, line(3, "a", "b"), line(5, "c"))
		parses(t, "a("+r+"\n)"+r)
	}
	parses(t, "a/b/c /d e/ / f", line(1, "a/b/c", "/d", "e/", "/", "f"))
	parses(t, "/ /\n/(\n/\n)", line(1, "/", "/"), line(3, "/", "/"))
}

// P22.1: where a word ends.
func TestParseWords(t *testing.T) {
	parses(t, "a\"b\"", line(1, "a", "b"))
	parses(t, "a`b`c", line(1, "a", "b", "c"))
	parses(t, "\"a\"b`c`\"d\"", line(1, "a", "b", "c", "d"))
	parses(t, "a\"\"", line(1, "a", ""))
	parses(t, "a(\nb\n)", line(2, "a", "b"))
	parses(t, "a\\b \\ c\\\"d\"", line(1, "a\\b", "\\", "c\\", "d"))
	parses(t, "a/ /b", line(1, "a/", "/b"))
	parses(t, "a///b", line(1, "a"))
	parses(t, "a/\"b\"/`c`/", line(1, "a/", "b", "/", "c", "/"))
	parses(t, "=> ; , { } [ ] ' * é \x00 \xff", line(1, "=>", ";", ",", "{", "}", "[", "]", "'", "*", "é", "\x00", "\xff"))
	parses(t, "a b c d e f g h", line(1, "a", "b", "c", "d", "e", "f", "g", "h"))
	parses(t, "a\vb\fc d", line(1, "a\vb\fc", "d"))
	fails(t, "a)", 1, api.ErrText)
	fails(t, "a(b", 1, api.ErrText)
}

// P22.1: strings with each backslash, and with another byte behind it; strings without their end.
func TestParseStrings(t *testing.T) {
	parses(t, `"a"`, line(1, "a"))
	parses(t, `a "b \" \\ \n \t c"`, line(1, "a", "b \" \\ \n \t c"))
	parses(t, `a "\"" "\\" "\n" "\t" "\\n" "\\\\" "\"\""`, line(1, "a", "\"", "\\", "\n", "\t", "\\n", "\\\\", "\"\""))
	parses(t, "a \"// ( ) ` '\" \"\x00\xff\r\t\"", line(1, "a", "// ( ) ` '", "\x00\xff\r\t"))
	parses(t, `"\n" "\t"`, line(1, "\n", "\t"))
	for c := range 256 {
		b := string([]byte{byte(c)})
		said, ok := map[int]string{'"': "\"", '\\': "\\", 'n': "\n", 't': "\t"}[c]
		if ok {
			parses(t, "x\na \"<\\"+b+">\"", line(1, "x"), line(2, "a", "<"+said+">"))
		} else {
			fails(t, "x\na \"<\\"+b+">\"", 2, api.ErrText)
		}
	}
	for _, wrong := range []string{`"`, `"x`, `"x\`, `"x\"`, `"x\\\"`, `"x\n`, `"\`, `"""`, "\"x`", "\"x // y", "\"x\\a\"", "\"x\r", "`", "`x", "`x\"", "```", "`x\\", "`x // y", "`\r"} {
		fails(t, wrong, 1, api.ErrText)
		fails(t, "a "+wrong, 1, api.ErrText)
		fails(t, "a\n\n"+wrong+"\nb", 3, api.ErrText)
		fails(t, "a\nb "+wrong+"\n\"\n`\n", 2, api.ErrText)
		fails(t, "a (\nb\n"+wrong+"\n)", 3, api.ErrText)
		fails(t, "a ("+wrong+"\n)", 1, api.ErrText)
		fails(t, "a (\n)"+wrong, 2, api.ErrText)
	}
	fails(t, "a \"b\nc\"", 1, api.ErrText)
	fails(t, "a \"b\\\nc\"", 1, api.ErrText)
	fails(t, "a `b\nc`", 1, api.ErrText)
}

// P22.1: raw strings, in which a backslash is one.
func TestParseRaw(t *testing.T) {
	parses(t, "`a`", line(1, "a"))
	parses(t, "a `b \\n \\ \" // ( ) '` ``", line(1, "a", "b \\n \\ \" // ( ) '", ""))
	parses(t, "a `\\` `\\\\` `\"`", line(1, "a", "\\", "\\\\", "\""))
	parses(t, "a (\n`)` `(`\n)", line(2, "a", ")", "("))
	parses(t, "`module` `a.b`", line(1, "module", "a.b"))
}

// P22.1: empty strings as a verb, as a word, alone in a block.
func TestParseEmptyStrings(t *testing.T) {
	for _, empty := range []string{"\"\"", "``"} {
		fails(t, empty, 1, api.ErrText)
		fails(t, empty+" a", 1, api.ErrText)
		fails(t, "a\n"+empty+empty, 2, api.ErrText)
		fails(t, empty+" (\n)", 1, api.ErrText)
		fails(t, empty+"(\na\n)\n", 1, api.ErrText)
		parses(t, "a "+empty, line(1, "a", ""))
		parses(t, "a "+empty+empty+" b "+empty, line(1, "a", "", "", "b", ""))
		parses(t, "a (\n"+empty+"\n"+empty+" b\n)", line(2, "a", ""), line(3, "a", "", "b"))
		fails(t, "a (\n"+empty+" (\n)", 2, api.ErrText)
		fails(t, "a (\n"+empty+")\n)", 2, api.ErrText)
	}
}

// P22.1: blocks that are in form.
func TestParseBlocks(t *testing.T) {
	parses(t, "a (\n)")
	parses(t, "a (\n)\n")
	parses(t, "a (\n\n\n // x\n)\n")
	parses(t, "a (\n)\na (\n)\nb", line(5, "b"))
	parses(t, "a (\nb\nc d\n\n\"e f\"\n)\ng (\nh\n)\na i", line(2, "a", "b"), line(3, "a", "c", "d"), line(5, "a", "e f"), line(8, "g", "h"), line(10, "a", "i"))
	parses(t, "\"a b\" (\nc\n)", line(2, "a b", "c"))
	parses(t, "`a`(\nmodule x\n)", line(2, "a", "module", "x"))
	parses(t, "a (\na\n)", line(2, "a", "a"))
}

// P22.1: blocks that aren't: open at the text's end, within a block, shut twice, with words behind ( or ).
func TestParseBlocksWrong(t *testing.T) {
	for s, at := range map[string]int{
		"a (": 1, "a(": 1, "a ( // x": 1, "a (\r": 1,
		"a (\nb": 2, "a (\nb\nc": 3, "x\n\na (\n\nb": 5, "a (\n)\nb (\nc": 4, "a (\n// )": 2, "a (\n\")\"": 2,
		// A text's last line is the one that its end ends: behind a line's end it is an empty one.
		"a (\n": 2, "a (\n\n": 3, "a (\nb\n": 3, "a (\n)\nb (\n": 4,
		"a (\nb (\n)\n)": 2, "a (\nb (": 2, "a (\n(\n)\n)": 2, "a (\nb\nc (\nd\n)\n)": 3, "a (\na (\n": 2,
		")": 1, "a (\n)\n)": 3, "a (\n)\n\n)\n": 4, "a\n)": 2, "\n)\n": 2, "a (\n))": 2, "a (\n) )": 2, "))": 1,
		"a ( b": 1, "a ( b )": 1, "a ()": 1, "a ( )": 1, "a ((": 1, "a ( (\n)": 1, "a ( \"\"\n)": 1, "a (`b`\n)": 1,
		"a (\n) b": 2, "a (\n) \"\"": 2, "a (\n)b\n": 2, "a (\nb )": 2, "a (\nb)\n)": 2, "a (\n\"b\")": 2, "a (\n) (": 2, "a (\n)(": 2,
		"(": 1, "( a": 1, "(\n)": 1, "()": 1, ")(": 1, "(a": 1, ") a": 1, "a )": 1, "a b )": 1,
		"a b (": 1, "a b (\nc\n)": 1, "a \"\" (\n)": 1, "a b c(\n)": 1, "x\na b (\nc\n)": 2,
	} {
		fails(t, s, at, api.ErrText)
	}
}

// P22.1: the first line that is wrong counts, whatever is wrong with it and with those behind.
func TestParseFirstWrong(t *testing.T) {
	wrong := []string{")", "(", "\"x", "`x", "\"\\a\"", "\"\"", "a b (", "a ()", "a )"}
	for _, first := range wrong {
		for _, second := range wrong {
			fails(t, "ok\n"+first+"\nok\n"+second, 2, api.ErrText)
			fails(t, "a (\nb\n)\n\n"+first+"\n"+second+"\n", 5, api.ErrText)
		}
		fails(t, first+" )", 1, api.ErrText)
		if first == ")" || first == "\"\"" {
			continue // in a block these are lines
		}
		fails(t, "a (\nb\n"+first+"\nc (\n", 3, api.ErrText)
		fails(t, "a (\n"+first, 2, api.ErrText)
	}
}

// P22.1: 65536 bytes and 65537; ErrBig counts ahead of ErrText, and has the line 0.
func TestParseLength(t *testing.T) {
	for _, unit := range []string{"\n", "a", " ", "//", "a ", "a\n", "a b c\n", "\"\" ", "``", "/ ", "(", ")", "\"", "`", "\\", "a (\n", "a(\nb\n)\n", "\"\\n\"", "\"\\\\\" ", "a\"\"", "\x00", "\r", "\xff "} {
		for _, front := range []string{"", "module a.b\n", "a ", "a (\n", "a \"", "a `", "//", "\n\n)\n"} {
			s := front + strings.Repeat(unit, 65537)
			holds(t, s[:65536])
			fails(t, s[:65537], 0, api.ErrBig)
			fails(t, s, 0, api.ErrBig)
		}
	}
	long := strings.Repeat("x", 65532)
	parses(t, "a b "+long, line(1, "a", "b", long))
	parses(t, "\""+long+"\"\n\n", line(1, long))
	parses(t, "a\n`"+long[2:]+"`\n", line(1, "a"), line(2, long[2:]))
	fails(t, "a b "+long+"x", 0, api.ErrBig)
	fails(t, "a\n)"+long+"xx", 0, api.ErrBig)
	many, _, e := Parse(strings.Repeat("a\n", 32768))
	if len(many) != 32768 || !sameLine(many[32767], line(32768, "a")) || e != api.OK {
		t.Errorf("%d lines, %d", len(many), e)
	}
	wide, _, e := Parse(strings.Repeat("a ", 32768))
	if len(wide) != 1 || len(wide[0].Words) != 32767 || e != api.OK {
		t.Errorf("%d lines, %d", len(wide), e)
	}
}

// P22.1: each byte, between words, in words, in strings, in remarks, at a line's ends.
func TestParseBytes(t *testing.T) {
	for c := range 256 {
		b := string([]byte{byte(c)})
		for _, s := range []string{
			b, b + b, "a" + b, b + "a", "a" + b + "b", "a " + b + " b", "\"" + b + "\"", "a \"b" + b + "c\"", "a `b" + b + "c`", "\"a\"" + b, "`a`" + b + "`b`", "//" + b + "\na", "/" + b + "a", "a/" + b + "/b", "a (" + b + "\nb\n)", "a" + b + "(\nb\n)", "a (\n" + b + "\n)", "a (\nb" + b + "c\n)", "a (\n)" + b, "a (\n" + b + ")", "a (\nb\n)\n" + b, b + "\nmodule a.b", "module" + b + "a.b", "module a.b" + b, "module a" + b + "b.c", "module \"a.b" + b + "\"",
		} {
			holds(t, s)
		}
	}
}

// P22.1: all short texts of the bytes that count.
func TestParseShort(t *testing.T) {
	good, bad := 0, 0
	var grow func(s string, left int)
	grow = func(s string, left int) {
		if holds(t, s) {
			good++
		} else {
			bad++
		}
		if left == 0 || t.Failed() {
			return
		}
		for _, c := range []string{"a", " ", "\n", "(", ")", "\"", "`", "\\", "/", "n"} {
			grow(s+c, left-1)
		}
	}
	grow("", 5)
	grow("a (\n", 4)
	grow("a \"", 4)
	grow("a (\nb\n)", 4)
	if good < 10000 || bad < 10000 {
		t.Errorf("%d texts, %d wrong ones", good, bad)
	}
}

// chanceText: some lines, most of them in form.
func chanceText(random *rand.Rand) string {
	pick := func(l ...string) string { return l[random.Intn(len(l))] }
	token := func() string {
		return pick("a", "b/c", "module", "a.b", "example.com/a", "\"c d\"", "\"\"", "``", "`e`", "\"\\n\\\"\"", "=>", "/", "v1.2.3", "é")
	}
	words := func() string {
		s := token()
		for range random.Intn(4) {
			s += pick(" ", "\t", "  ", "\r", "") + token()
		}
		return s
	}
	var b strings.Builder
	end := func() string { return pick("", " ", " // x", "//\"", "\r") + "\n" }
	for range random.Intn(6) {
		switch random.Intn(8) {
		case 0:
			b.WriteString(end())
		case 1, 2:
			b.WriteString(token() + pick(" ", "", "\t") + "(" + end())
			for range random.Intn(4) {
				b.WriteString(words() + end())
			}
			if random.Intn(8) > 0 {
				b.WriteString(")" + end())
			}
		case 3:
			b.WriteString("module " + pick("a.b", "example.com/a", "\"a.b/c\"", "a", "", "a.b c.d") + end())
		default:
			b.WriteString(words() + end())
		}
	}
	s := b.String()
	if random.Intn(4) == 0 {
		at := random.Intn(len(s) + 1)
		s = s[:at] + pick("(", ")", "\"", "`", "\\", "\n", "/", "//", "") + s[min(len(s), at+random.Intn(2)):]
	}
	if random.Intn(3) == 0 {
		s = strings.TrimSuffix(s, "\n")
	}
	return s
}

// P22.1, P22.3: texts by chance, against the words.
func TestParseByChance(t *testing.T) {
	random := rand.New(rand.NewSource(22))
	good, bad := 0, 0
	for range 60000 {
		if holds(t, chanceText(random)) {
			good++
		} else {
			bad++
		}
	}
	if good < 10000 || bad < 10000 {
		t.Errorf("%d texts, %d wrong ones", good, bad)
	}
}

// P22.4: no two lists of an answer, and no two answers, share memory.
func TestAnswersAreNew(t *testing.T) {
	const text = "a b c\nd (\ne f g\nh\n)\ni\nj k\n"
	want, _, _ := Parse(text)
	want = slices.Clone(want)
	for i := range want {
		want[i].Words = slices.Clone(want[i].Words)
	}
	for i := range want {
		one, _, _ := Parse(text)
		other, _, _ := Parse(text)
		_ = append(one[i].Words, "behind", "and more")
		for k := range one[i].Words {
			one[i].Words[k] = "spoilt"
		}
		one[i].Words = nil
		one[i].Verb = "spoilt"
		for k := range one {
			if k != i && !sameLine(one[k], want[k]) {
				t.Errorf("line %d of the answer has become %+v", k, one[k])
			}
		}
		_ = append(one[:i], line(9, "behind"))
		if again, _, _ := Parse(text); !slices.EqualFunc(other, want, sameLine) || !slices.EqualFunc(again, want, sameLine) {
			t.Errorf("other answers have become %+v, %+v", other, again)
		}
	}
}
