package semver

import (
	"math/rand"
	"regexp"
	"strings"
	"testing"
)

const (
	numberForm = `(0|[1-9][0-9]*)`
	preForm    = `(?:0|[1-9][0-9]*|[0-9]*[a-zA-Z-][0-9a-zA-Z-]*)`
	buildForm  = `[0-9a-zA-Z-]+`
)

var form = regexp.MustCompile(`\Av` + numberForm + `(?:\.` + numberForm + `(?:\.` + numberForm + `(?:-(` + preForm + `(?:\.` + preForm + `)*))?(?:\+(` + buildForm + `(?:\.` + buildForm + `)*))?)?)?\z`)

// parseByWords: the document's words on a version.
func parseByWords(s string) (Version, bool) {
	m := form.FindStringSubmatch(s)
	if m == nil || len(s) > 100 {
		return Version{}, false
	}
	v := Version{Major: m[1], Minor: m[2], Patch: m[3], Pre: m[4], Build: m[5]}
	if v.Minor == "" {
		v.Minor = "0"
		v.Short++
	}
	if v.Patch == "" {
		v.Patch = "0"
		v.Short++
	}
	return v, true
}

// parses holds Parse, Canonical and Major against what the document asks of a version.
func parses(t *testing.T, s string, want Version) {
	t.Helper()
	if v, ok := Parse(s); v != want || !ok {
		t.Errorf("Parse(%q): %+v, %v, not %+v", s, v, ok, want)
	}
	if v, ok := parseByWords(s); v != want || !ok {
		t.Errorf("by the words, %q: %+v, %v, not %+v", s, v, ok, want)
	}
	canonical := "v" + want.Major + "." + want.Minor + "." + want.Patch
	if want.Pre != "" {
		canonical += "-" + want.Pre
	}
	if c := Canonical(s); c != canonical {
		t.Errorf("Canonical(%q): %q, not %q", s, c, canonical)
	}
	if m := Major(s); m != "v"+want.Major {
		t.Errorf("Major(%q): %q", s, m)
	}
}

// fails holds them against what it asks of what is no version.
func fails(t *testing.T, s string) {
	t.Helper()
	if v, ok := Parse(s); v != (Version{}) || ok {
		t.Errorf("Parse(%q): %+v, %v", s, v, ok)
	}
	if v, ok := parseByWords(s); v != (Version{}) || ok {
		t.Errorf("by the words, %q: %+v, %v", s, v, ok)
	}
	if c := Canonical(s); c != "" {
		t.Errorf("Canonical(%q): %q", s, c)
	}
	if m := Major(s); m != "" {
		t.Errorf("Major(%q): %q", s, m)
	}
}

// P20.1: one, two and three numbers.
func TestParseNumbers(t *testing.T) {
	long := strings.Repeat("1234567890", 3)
	for _, a := range []string{"0", "1", "9", "10", "100", "12", "18446744073709551616", long} {
		parses(t, "v"+a, Version{Major: a, Minor: "0", Patch: "0", Short: 2})
		for _, b := range []string{"0", "1", "9", "20", long} {
			parses(t, "v"+a+"."+b, Version{Major: a, Minor: b, Patch: "0", Short: 1})
			for _, c := range []string{"0", "1", "9", "30", long} {
				parses(t, "v"+a+"."+b+"."+c, Version{Major: a, Minor: b, Patch: c})
			}
		}
	}
	for _, s := range []string{
		"v1.", "v1..", "v1..0", "v1.0.", "v.", "v.1", "v..", "v1.2.3.", "v1.2.3.4", "v1.2.3.4-a", "v.1.2", "v.1.2.3", "v1..2.3", "v1.2..3",
		"v01", "v00", "v01.0.0", "v1.01", "v1.00", "v1.01.0", "v1.0.01", "v1.0.00", "v00.0.0", "v0.00.0", "v1.2.03-a", "v0x1", "v1e3", "v1_0", "v+1", "v-1", "v1.-1", "v1.+1", "v1.0.+1", "v1.0.-1", "v--1", "v1 .0.0", "v1.0 .0", "v1. 0.0",
		"va", "va.0.0", "v1.a", "v1.a.0", "v1.0.a", "v1a", "v1.1a", "v1.1.1a", "v1.0.0a", "vv1", "v v1", "v1v2", "v1.2.3v",
	} {
		fails(t, s)
	}
}

// P20.1: a prerelease and a build behind three numbers, and behind fewer.
func TestParsePreBuild(t *testing.T) {
	for _, pre := range []string{"", "a", "0", "1", "10", "alpha.1", "0.0.0", "x-y", "-", "--", "-a-", "a-", "-a", "-0", "-01", "01-", "0-1", "00a", "0a", "a0", "a00", "a.b.c", "0.a.0", "A.Z.z", "rc.1-x.20060102150405-abcdefabcdef", "-.-", "---.0", "9999999999999999999999999"} {
		for _, build := range []string{"", "b", "0", "00", "01", "007.00.01", "x-y", "-", "--", "-b-", "a.b", "incompatible", "0.0", "A-9.z", "-.-"} {
			want := Version{Major: "1", Minor: "2", Patch: "3", Pre: pre, Build: build}
			behind := ""
			if pre != "" {
				behind = "-" + pre
			}
			if build != "" {
				behind += "+" + build
			}
			parses(t, "v1.2.3"+behind, want)
			if behind != "" {
				fails(t, "v1.2"+behind)
				fails(t, "v1"+behind)
				fails(t, "v"+behind)
				fails(t, "v1.2.3."+behind)
				fails(t, "v1.2."+behind)
				fails(t, "v1.2.3.4"+behind)
			}
		}
	}
	for _, s := range []string{
		"v1.0.0-", "v1.0.0+", "v1.0.0-+", "v1.0.0-+b", "v1.0.0-a+", "v1.0.0-.", "v1.0.0+.", "v1.0.0-a.", "v1.0.0-.a", "v1.0.0-a..b", "v1.0.0+a.", "v1.0.0+.a", "v1.0.0+a..b", "v1.0.0-a.+b", "v1.0.0-a+.b", "v1.0.0-a+b.",
		"v1.0.0-01", "v1.0.0-00", "v1.0.0-a.01", "v1.0.0-01.a", "v1.0.0-a.00.b", "v1.0.0-0.01", "v1.0.0-01+b", "v1.0.0-007", "v1.0.0-a.007+0",
		"v1.0.0-a+b+c", "v1.0.0+b+c", "v1.0.0++", "v1.0.0++b", "v1.0.0+b+", "v1.0.0-a+b+", "v1.0.0-a++b",
		"v1.0.0-a_b", "v1.0.0+a_b", "v1.0.0-é", "v1.0.0+é", "v1.0.0-a b", "v1.0.0-a/b", "v1.0.0-a~", "v1.0.0-*", "v1.0.0 ", " v1.0.0", "v1.0.0\n", "v1.0.0-a\n", "v1.0.0+a\x00",
	} {
		fails(t, s)
	}
}

// P20.1: no v, a V, and other texts that are none; the document's examples.
func TestParseWrong(t *testing.T) {
	for _, s := range []string{"", "v", "V", "1", "1.0.0", "V1", "V1.0.0", "x", "0", ".", "-", "+", "version1", "w1.0.0", "ｖ1.0.0", "\x001.0.0", "u1", "1v", "latest", "main", "v1.0.0/x", "sub/v1.0.0", "v1.0.0-a/b", "v１.0.0", "v1,0,0", "v\xff", "v1.\xff.0", "\xff"} {
		fails(t, s)
	}
	for _, s := range []string{"1.0.0", "v01.0.0", "v1.0.0-", "v1.0.0-01", "v1.0.0-a..b", "v1.", "v1.0.0+", "V1.0.0"} {
		fails(t, s)
	}
	if c := Canonical("v1.2+x"); c != "" {
		t.Errorf("Canonical(v1.2+x): %q", c)
	}
	if c := Canonical("v1.2.3-a+b"); c != "v1.2.3-a" {
		t.Errorf("Canonical(v1.2.3-a+b): %q", c)
	}
}

// P20.1: 100 and 101 bytes, in each part.
func TestParseLength(t *testing.T) {
	for _, ends := range [][2]string{{"v", ""}, {"v1.", ""}, {"v1.2.", ""}, {"v", ".2.3"}, {"v1.", ".3"}, {"v1.2.3-", ""}, {"v1.2.3-a.", "+b"}, {"v1.2.3+", ""}, {"v1.2.3-a+b.", ".c"}, {"v", ".2.3-a+b"}} {
		room := 100 - len(ends[0]) - len(ends[1])
		for n := room - 2; n <= room; n++ {
			s := ends[0] + strings.Repeat("7", n) + ends[1]
			want, ok := parseByWords(s)
			if !ok {
				t.Errorf("by the words, %q is none", s)
			}
			parses(t, s, want)
		}
		for _, n := range []int{room + 1, room + 2, room + 100, room + 256, 1 << 20} {
			fails(t, ends[0]+strings.Repeat("7", n)+ends[1])
		}
	}
	fails(t, strings.Repeat(".", 1<<20))
	fails(t, "v1.0.0-a"+strings.Repeat(".a", 1<<20))
	parses(t, "v1.0.0-a"+strings.Repeat(".a", 46), Version{Major: "1", Minor: "0", Patch: "0", Pre: "a" + strings.Repeat(".a", 46)})
	// What is wanting is written, even where it makes more bytes than a version has.
	long := strings.Repeat("7", 99)
	if c := Canonical("v" + long); c != "v"+long+".0.0" || Canonical(c) != "" {
		t.Errorf("Canonical of 100 bytes: %q", c)
	}
}

// P20.1: each byte, in each part, at its beginning, within, at its end.
func TestParseBytes(t *testing.T) {
	for c := range 256 {
		b := string([]byte{byte(c)})
		digit := c >= '0' && c <= '9'
		wordy := digit || c >= 'a' && c <= 'z' || c >= 'A' && c <= 'Z' || c == '-'
		for _, try := range []struct {
			text string
			want bool
		}{
			{b, false}, {b + "1.2.3", c == 'v'}, {"v" + b, digit}, {"v" + b + "1", digit && c != '0'}, {"v1" + b, digit}, {"v1" + b + "1", digit || c == '.'}, {"v1.2." + b, digit}, {"v1.2" + b + "3", digit || c == '.'}, {"v1.2.3" + b, digit}, {"v1.2.3" + b + "a", c == '-' || c == '+'},
			{"v1.2.3-" + b, wordy}, {"v1.2.3-a" + b, wordy}, {"v1.2.3-a" + b + "a", wordy || c == '.' || c == '+'}, {"v1.2.3-a." + b, wordy}, {"v1.2.3-" + b + "1", wordy && c != '0'}, {"v1.2.3-" + b + "a", wordy}, {"v1.2.3-0" + b, wordy && !digit},
			{"v1.2.3+" + b, wordy}, {"v1.2.3+a" + b + "a", wordy || c == '.'}, {"v1.2.3-a+" + b, wordy}, {"v1.2.3-a+a" + b, wordy}, {"v1.2.3+" + b + "1", wordy}, {"v1.2.3+0" + b, wordy},
		} {
			if _, ok := Parse(try.text); ok != try.want {
				t.Errorf("Parse(%q): %v", try.text, ok)
			}
			if _, ok := parseByWords(try.text); ok != try.want {
				t.Errorf("by the words, %q: %v", try.text, ok)
			}
		}
	}
}

// P20.1: all short texts of the bytes that count.
func TestParseShort(t *testing.T) {
	found := 0
	var grow func(text string, left int)
	grow = func(text string, left int) {
		want, wantOk := parseByWords(text)
		if v, ok := Parse(text); v != want || ok != wantOk {
			t.Fatalf("Parse(%q): %+v, %v, not %+v, %v", text, v, ok, want, wantOk)
		}
		if wantOk {
			found++
		}
		if left == 0 {
			return
		}
		for _, c := range []string{".", "-", "+", "0", "1", "a", "v"} {
			grow(text+c, left-1)
		}
	}
	grow("", 5)
	grow("v1", 6)
	grow("v1.0.0", 5)
	grow("v1.0.0-a", 5)
	if found < 10000 {
		t.Errorf("only %d versions", found)
	}
}

// chanceText: a version, or what is nearly one.
func chanceText(random *rand.Rand) string {
	pick := func(l ...string) string { return l[random.Intn(len(l))] }
	n := func() string {
		return pick("0", "1", "2", "9", "10", "11", "99", "100", "18446744073709551616", "18446744073709551617")
	}
	words := func() string {
		var l []string
		for range 1 + random.Intn(3) {
			l = append(l, pick("0", "1", "2", "10", "11", "a", "b", "A", "ab", "a-", "-", "-1", "1a", "alpha", "beta", "rc", "99999999999999999999", "100000000000000000000", "01", "00"))
		}
		return strings.Join(l, ".")
	}
	s := "v" + n()
	for range random.Intn(3) {
		s += "." + n()
	}
	if strings.Count(s, ".") == 2 && random.Intn(2) == 0 {
		s += "-" + words()
	}
	if strings.Count(s, ".") >= 2 && random.Intn(3) == 0 {
		s += "+" + words()
	}
	if random.Intn(20) == 0 {
		at := random.Intn(len(s) + 1)
		s = s[:at] + pick(".", "-", "+", "0", "x", "") + s[min(len(s), at+random.Intn(2)):]
	}
	return s
}

// P20.1: texts by chance against the words; Canonical and Major of Canonical change nothing more.
func TestParseByChance(t *testing.T) {
	random := rand.New(rand.NewSource(1))
	for range 100000 {
		s := chanceText(random)
		want, ok := parseByWords(s)
		if !ok {
			fails(t, s)
			continue
		}
		parses(t, s, want)
		if c := Canonical(s); Canonical(c) != c || Major(c) != Major(s) {
			t.Errorf("Canonical(%q): %q, and of that %q, %q", s, c, Canonical(c), Major(c))
		}
	}
}
