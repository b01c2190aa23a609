package pseudo

import (
	"math/rand"
	"strconv"
	"strings"
	"testing"

	"cartulary/api"
	"cartulary/calendar"
)

// says: what a pseudo-version with the example's segment says.
func says(base string) Parts {
	return Parts{Base: base, Time: noon, Rev: digits}
}

// P21.1: the document's examples.
func TestParseExamples(t *testing.T) {
	fails(t, "v1.2.0-0.20060102150405-abcdefabcdef", api.ErrText)
	fails(t, "v1.0.0-20061302150405-abcdefabcdef", api.ErrText)
	fails(t, "v1.2.3", api.ErrText)
	fails(t, "v1", api.ErrForm)
}

// P21.1: each of the three forms, with and without a build.
func TestParseForms(t *testing.T) {
	for s, base := range map[string]string{
		"v0.0.0-" + segment:                            "",
		"v1.0.0-" + segment:                            "",
		"v18446744073709551616.0.0-" + segment:         "",
		"v1.2.3-pre.0." + segment:                      "v1.2.3-pre",
		"v1.2.3-pre.0." + segment + "+b":               "v1.2.3-pre+b",
		"v1.2.0-pre.0." + segment:                      "v1.2.0-pre",
		"v0.0.0-pre.0." + segment + "+b.c":             "v0.0.0-pre+b.c",
		"v1.0.0-0.0." + segment:                        "v1.0.0-0",
		"v1.0.0-0.0.0." + segment:                      "v1.0.0-0.0",
		"v1.2.3-a.0.0." + segment:                      "v1.2.3-a.0",
		"v1.2.3-a-b.0." + segment:                      "v1.2.3-a-b",
		"v1.2.3--.0." + segment:                        "v1.2.3--",
		"v1.2.3-a.b.c.0." + segment:                    "v1.2.3-a.b.c",
		"v1.2.3-" + segment + ".0." + segment:          "v1.2.3-" + segment,
		"v1.2.4-0." + segment:                          "v1.2.3",
		"v1.2.4-0." + segment + "+b":                   "v1.2.3+b",
		"v1.2.1-0." + segment:                          "v1.2.0",
		"v0.0.1-0." + segment:                          "v0.0.0",
		"v2.0.10-0." + segment + "+incompatible":       "v2.0.9+incompatible",
		"v2.0.1-0." + segment + "+" + segment:          "v2.0.0+" + segment,
		"v2.0.1-0." + segment + "+a-b-" + digits:       "v2.0.0+a-b-" + digits,
		"v2.0.1-a.0." + segment + "+0." + segment:      "v2.0.1-a+0." + segment,
		"v2.0.1-0." + segment + "+00.01":               "v2.0.0+00.01",
		"v1.2.3-0." + segment + ".0." + segment + "+b": "v1.2.3-0." + segment + "+b",
	} {
		parses(t, s, says(base))
	}
}

// P21.1: the third number, one less.
func TestParsePatch(t *testing.T) {
	for number, less := range map[string]string{
		"1": "0", "2": "1", "9": "8", "10": "9", "11": "10", "20": "19", "90": "89", "100": "99", "101": "100", "110": "109", "200": "199", "1000": "999", "1001": "1000", "1100": "1099", "10000": "9999", "20000": "19999",
		"2147483648": "2147483647", "4294967296": "4294967295", "9223372036854775808": "9223372036854775807", "18446744073709551616": "18446744073709551615",
		"1" + strings.Repeat("0", 40):         strings.Repeat("9", 40),
		"1" + strings.Repeat("0", 39) + "1":   "1" + strings.Repeat("0", 40),
		"2" + strings.Repeat("0", 40):         "1" + strings.Repeat("9", 40),
		strings.Repeat("1234567890", 4):       strings.Repeat("1234567890", 3) + "1234567889",
		strings.Repeat("1234567890", 4) + "0": strings.Repeat("1234567890", 3) + "12345678899",
	} {
		parses(t, "v1.10."+number+"-0."+segment, says("v1.10."+less))
		parses(t, "v1.10."+number+"-0."+segment+"+b", says("v1.10."+less+"+b"))
		parses(t, "v1.10."+number+"-a.0."+segment, says("v1.10."+number+"-a"))
	}
	for n := range 11000 {
		parses(t, "v0.0."+strconv.Itoa(n+1)+"-0."+segment, says("v0.0."+strconv.Itoa(n)))
	}
	for _, s := range []string{"v0.0.0-0." + segment, "v1.2.0-0." + segment, "v1.2.0-0." + segment + "+b", "v10.10.0-0." + segment} {
		fails(t, s, api.ErrText)
	}
}

// P21.1: what looks like one of the forms, but is none.
func TestParseNoForm(t *testing.T) {
	for _, s := range []string{
		// The first form has neither another number but 0 nor a build.
		"v1.1.0-" + segment, "v1.0.1-" + segment, "v1.2.3-" + segment, "v0.10.0-" + segment, "v0.0.10-" + segment,
		"v1.0.0-" + segment + "+b", "v0.0.0-" + segment + "+incompatible", "v2.0.0-" + segment + "+" + segment,
		// No segment at all, or not at the prerelease's end.
		"v1.2.3", "v0.0.0", "v1.2.3+b", "v1.2.3+" + segment, "v1.2.3-a", "v1.2.3-a+0." + segment, "v1.2.3-0", "v1.2.3-0.0", "v1.2.3--", "v1.2.3-0.", "v1.2.3-" + digits, "v1.2.3-0.20060102150405", "v1.2.3-20060102150405", "v1.2.3-0.20060102150405.abcdefabcdef", "v1.2.3-0.20060102150405abcdefabcdef", "v1.2.3-0.-" + digits, "v1.2.3--" + digits, "v1.2.3-0." + segment + ".0", "v1.2.3-0." + segment + ".a", "v1.2.3-0." + segment + "-", "v1.0.0-" + segment + "-a", "v1.0.0-" + segment + ".0",
		// Something else ahead of the segment.
		"v1.2.3-1." + segment, "v1.2.3-a." + segment, "v1.2.3-00." + segment, "v1.2.3-a0." + segment, "v1.2.3-0a." + segment, "v1.2.3-a.1." + segment, "v1.2.3-a.00." + segment, "v1.2.3-a.0.a." + segment, "v1.2.3-a.0.1" + segment, "v1.2.3-0.0" + segment, "v1.2.3-0" + segment, "v1.2.3-a" + segment, "v1.2.3--" + segment, "v1.2.3-0-" + segment, "v1.2.3-0.-" + segment, "v1.2.3-a.0-" + segment, "v1.2.3-a-0." + segment, "v1.2.3-a.b" + segment, "v1.0.0--" + segment, "v1.0.0-a" + segment, "v1.0.0-a." + segment,
	} {
		want := api.ErrText
		if strings.Contains(s, "-00.") || strings.Contains(s, ".00.") || strings.HasSuffix(s, ".") {
			want = api.ErrForm
		}
		fails(t, s, want)
	}
}

// P21.1: digits that are too few, too many, great letters; several hyphens.
func TestParseDigits(t *testing.T) {
	for _, front := range []string{"v1.0.0-", "v1.2.3-0.", "v1.2.3-a.0."} {
		for _, wrong := range []string{
			"20060102150405-abcdefabcde", "20060102150405-abcdefabcdefa", "20060102150405-a", "20060102150405-", "20060102150405-ABCDEFABCDEF", "20060102150405-abcdefabcdeF", "20060102150405-Abcdefabcdef", "20060102150405-abcdefabcdeg", "20060102150405-abcdef-bcdef", "20060102150405-abcde.abcdef", "20060102150405-" + strings.Repeat("a", 40),
			"2006010215040-abcdefabcdef", "200601021504055-abcdefabcdef", "200601021504-abcdefabcdef", "2006010215040a-abcdefabcdef", "a0060102150405-abcdefabcdef", "20060102.50405-abcdefabcdef", "2006010-150405-abcdefabcdef", "-0060102150405-abcdefabcdef", "20060102150405--abcdefabcdef", "-abcdefabcdef", "1-abcdefabcdef", "20060102150405-" + segment, segment + "-" + digits, segment + "-" + segment,
		} {
			s := front + wrong
			want, e := parseByWords(s)
			if e == api.OK {
				t.Errorf("by the words, %q: %+v", s, want)
			}
			fails(t, s, e)
			fails(t, s+"+b", e)
		}
	}
	fails(t, "v1.0.0-20060102150405-abcdefabcde", api.ErrText)
	fails(t, "v1.0.0-20060102150405-abcdefabcdefa", api.ErrText)
	fails(t, "v1.0.0-20060102150405-abcdefabcdeF", api.ErrText)
	fails(t, "v1.0.0-200601021504055-abcdefabcdef", api.ErrText)
	fails(t, "v1.0.0-20060102150405--abcdefabcdef", api.ErrText)
}

// P21.1: stamps that are a second, and stamps that are none.
func TestParseStamp(t *testing.T) {
	forms := map[string]string{"v3.0.0-": "", "v3.4.6-0.": "v3.4.5", "v3.4.5-a.0.": "v3.4.5-a"}
	for front, base := range forms {
		for stamp, second := range map[string]int{"00010101000000": calendar.Least, "99991231235959": calendar.Greatest, "19700101000000": 0, "19691231235959": -1, "20000229000000": 951782400, "20040229235959": 1078099199} {
			parses(t, front+stamp+"-"+digits, Parts{Base: base, Time: second, Rev: digits})
		}
		for _, stamp := range []string{"00000101000000", "00000000000000", "20061302150405", "20060002150405", "20060132150405", "20060100150405", "20060102240405", "20060102156005", "20060102150460", "19000229000000", "20010229000000", "20060431000000", "99999999999999", "99991231235960", "00001231235959"} {
			fails(t, front+stamp+"-"+digits, api.ErrText)
		}
	}
}

// P21.1: what is no version, or has a number wanting.
func TestParseNoVersion(t *testing.T) {
	for _, s := range []string{
		"", "v", "x", "1", "v1", "v1.2", "v0", "v0.0", "v18446744073709551616", "1.0.0-" + segment, "V1.0.0-" + segment, "v01.0.0-" + segment, "v1.00.0-" + segment, "v1.0.00-" + segment, "v1-" + segment, "v1.0-" + segment, "v1.2-0." + segment, "v1.2-a.0." + segment, "v1.2.3.4-0." + segment, "v1.2.04-0." + segment, "v1.2.3-.0." + segment, "v1.2.3-a..0." + segment, "v1.2.3-01.0." + segment, "v1.2.3-0.." + segment, "v1.2.3-0." + segment + "+", "v1.2.3-0." + segment + "+b+c", "v1.2.3-0." + segment + "+b_c", "v1.2.3-a_b.0." + segment, " v1.0.0-" + segment, "v1.0.0-" + segment + " ", "v1.0.0-" + segment + "\n", "v1.0.0-" + segment + ".", segment, "0." + segment, "v-" + segment, "v1.2.3-00.0." + segment, "main", "latest", "\x00", "\xff",
	} {
		fails(t, s, api.ErrForm)
	}
}

// P21.1: 100 bytes and 101.
func TestParseLength(t *testing.T) {
	for _, form := range [][4]string{
		{"v", ".0.0-" + segment, "", ""},
		{"v1.2.3-", ".0." + segment, "v1.2.3-", ""},
		{"v1.", ".4-0." + segment, "v1.", ".3"},
		{"v1.2.4-0." + segment + "+", "", "v1.2.3+", ""},
	} {
		room := 100 - len(form[0]) - len(form[1])
		for n := room - 2; n <= room+2; n++ {
			long := strings.Repeat("7", n)
			base := form[2] + long + form[3]
			if form[2] == "" {
				base = ""
			}
			if s := form[0] + long + form[1]; n > room {
				fails(t, s, api.ErrForm)
			} else {
				parses(t, s, says(base))
			}
		}
	}
	number := "1" + strings.Repeat("0", 64)
	s := "v1.2." + number + "-0." + segment
	if len(s) != 100 {
		t.Errorf("%d bytes", len(s))
	}
	parses(t, s, says("v1.2."+strings.Repeat("9", 64)))
	fails(t, "v1.2."+number+"0-0."+segment, api.ErrForm)
	fails(t, "v1.0.0-a"+strings.Repeat(".a", 1<<19)+".0."+segment, api.ErrForm)
	fails(t, strings.Repeat("-", 1<<20), api.ErrForm)
}

// P21.1: each byte at each place of a pseudo-version: instead of that one, ahead of it; and one byte taken away.
func TestParseBytes(t *testing.T) {
	good := 0
	hold := func(s string) {
		want, e := parseByWords(s)
		if e == api.OK {
			good++
			parses(t, s, want)
		} else {
			fails(t, s, e)
		}
	}
	for _, s := range []string{"v0.0.0-" + segment, "v1.2.3-p.0." + segment, "v1.2.3-p.0." + segment + "+b", "v1.2.10-0." + segment, "v1.2.9-0." + segment + "+b"} {
		for at := range len(s) + 1 {
			for c := range 256 {
				b := string([]byte{byte(c)})
				hold(s[:at] + b + s[at:])
				if at < len(s) {
					hold(s[:at] + b + s[at+1:])
				}
			}
			hold(s[:at])
			hold(s[at:])
			hold(s[:at] + s[min(at+1, len(s)):])
		}
	}
	if good < 1000 {
		t.Errorf("only %d pseudo-versions", good)
	}
}

// P21.1: texts by chance, against the words; one that is a pseudo-version is made again of what it says.
func TestParseByChance(t *testing.T) {
	random := rand.New(rand.NewSource(22))
	good, bad := 0, 0
	for range 60000 {
		s := chanceVersion(random)
		if front, build, found := strings.Cut(s, "+"); strings.Count(front, ".") >= 2 {
			s = front + pick(random, "-0.", ".0.", "-", ".", "-0.0.", "-a.0.") + segment
			if found {
				s += "+" + build
			}
		}
		if random.Intn(10) == 0 {
			at := random.Intn(len(s) + 1)
			s = s[:at] + pick(random, ".", "-", "+", "0", "x", "") + s[min(len(s), at+random.Intn(2)):]
		}
		want, e := parseByWords(s)
		if e != api.OK {
			bad++
			fails(t, s, e)
			continue
		}
		good++
		parses(t, s, want)
		major, _, _ := strings.Cut(s, ".")
		if again, e := Make(major, want.Base, want.Time, want.Rev); again != s || e != api.OK {
			t.Errorf("%q made again: %q, %d", s, again, e)
		}
	}
	if good < 5000 || bad < 5000 {
		t.Errorf("%d pseudo-versions, %d others", good, bad)
	}
}
