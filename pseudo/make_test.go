package pseudo

import (
	"math"
	"math/rand"
	"strconv"
	"strings"
	"testing"

	"cartulary/api"
	"cartulary/calendar"
	"cartulary/semver"
)

const (
	noon    = 1136214245 // the second of the document's examples
	digits  = "abcdefabcdef"
	segment = "20060102150405-abcdefabcdef"
)

// P21.1: how many digits of a name there are.
func TestDigits(t *testing.T) {
	if Digits != 12 {
		t.Errorf("Digits: %d", Digits)
	}
}

// P21.1, P21.2, P21.3: the document's examples.
func TestMakeExamples(t *testing.T) {
	makes(t, "v0", "", noon, digits, "v0.0.0-20060102150405-abcdefabcdef")
	makes(t, "v0", "v1.2.3", noon, digits, "v1.2.4-0.20060102150405-abcdefabcdef")
	makes(t, "v0", "v1.2.3-pre", noon, digits, "v1.2.3-pre.0.20060102150405-abcdefabcdef")
	makes(t, "v0", "v2.0.9+incompatible", noon, digits, "v2.0.10-0.20060102150405-abcdefabcdef+incompatible")
}

// P21.1, P21.2, P21.3: no base, of any major version.
func TestMakeMajor(t *testing.T) {
	for _, n := range []string{"0", "1", "2", "9", "10", "11", "99", "100", "18446744073709551616", strings.Repeat("7", 67)} {
		makes(t, "v"+n, "", noon, digits, "v"+n+".0.0-"+segment)
	}
	for _, major := range []string{
		"", "v", "0", "1", "V1", "v01", "v00", "v-1", "v+1", "v1.", "v.1", "v1.0", "v1.2", "v0.0", "v1.0.0", "v0.0.0", "v1-a", "v1+a", "v1.0.0-a", "v1.0.0+a", "vv1", "v1 ", " v1", "v1\n", "\nv1", "v1x", "vx", "v1\x00", "ｖ1", "v１", "v1.2.3.4", "latest", "v1/v2",
		"v" + strings.Repeat("7", 100), "v" + strings.Repeat("7", 255), "v" + strings.Repeat("0", 99), "v" + strings.Repeat("7", 1<<20), strings.Repeat("v", 101),
	} {
		refuses(t, major, "", noon, digits, api.ErrForm)
	}
	for c := range 256 {
		b := string([]byte{byte(c)})
		if c >= '0' && c <= '9' {
			makes(t, "v"+b, "", noon, digits, "v"+b+".0.0-"+segment)
			makes(t, "v1"+b, "", noon, digits, "v1"+b+".0.0-"+segment)
			continue
		}
		refuses(t, "v"+b, "", noon, digits, api.ErrForm)
		refuses(t, "v1"+b, "", noon, digits, api.ErrForm)
		refuses(t, "v1"+b+"1", "", noon, digits, api.ErrForm)
	}
}

// P21.1: beside a base the major version isn't asked.
func TestMakeMajorBesideBase(t *testing.T) {
	for _, major := range []string{"", "v0", "v1", "v7", "x", "v01", "1", "v1.2", "v1.2.3-a", "\x00", "v" + strings.Repeat("7", 100), strings.Repeat("x", 1<<16)} {
		makes(t, major, "v1.2.3", noon, digits, "v1.2.4-0."+segment)
		makes(t, major, "v1.2.3-a+b", noon, digits, "v1.2.3-a.0."+segment+"+b")
		refuses(t, major, "x", noon, digits, api.ErrForm)
	}
}

// P21.1, P21.2, P21.3: bases with and without a prerelease and a build, with numbers that are wanting.
func TestMakeBase(t *testing.T) {
	for base, want := range map[string]string{
		"v1":                  "v1.0.1-0." + segment,
		"v0":                  "v0.0.1-0." + segment,
		"v1.2":                "v1.2.1-0." + segment,
		"v0.0":                "v0.0.1-0." + segment,
		"v0.0.0":              "v0.0.1-0." + segment,
		"v10.20.30":           "v10.20.31-0." + segment,
		"v1.2.3+b":            "v1.2.4-0." + segment + "+b",
		"v1.2.3+b-c.00":       "v1.2.4-0." + segment + "+b-c.00",
		"v0.0.0-0":            "v0.0.0-0.0." + segment,
		"v1.2.3-0":            "v1.2.3-0.0." + segment,
		"v1.2.3-a":            "v1.2.3-a.0." + segment,
		"v1.2.3--":            "v1.2.3--.0." + segment,
		"v1.2.3-a.b.1":        "v1.2.3-a.b.1.0." + segment,
		"v1.2.3-a.0":          "v1.2.3-a.0.0." + segment,
		"v1.2.3-0.0":          "v1.2.3-0.0.0." + segment,
		"v1.2.3-a-b+c":        "v1.2.3-a-b.0." + segment + "+c",
		"v1.2.3-a+c.d":        "v1.2.3-a.0." + segment + "+c.d",
		"v1.2.3-99":           "v1.2.3-99.0." + segment,
		"v1.2.3-pre9":         "v1.2.3-pre9.0." + segment,
		"v2.0.0+incompatible": "v2.0.1-0." + segment + "+incompatible",
		// A pseudo-version, and nearly one, may be a base as any other version.
		"v0.0.0-" + segment:            "v0.0.0-" + segment + ".0." + segment,
		"v1.2.4-0." + segment:          "v1.2.4-0." + segment + ".0." + segment,
		"v1.2.3-pre.0." + segment:      "v1.2.3-pre.0." + segment + ".0." + segment,
		"v1.2.3-20060102150405":        "v1.2.3-20060102150405.0." + segment,
		"v1.2.3-0.20060102150405-a":    "v1.2.3-0.20060102150405-a.0." + segment,
		"v1.2.3+" + segment:            "v1.2.4-0." + segment + "+" + segment,
		"v1.2.3-pre+0." + segment:      "v1.2.3-pre.0." + segment + "+0." + segment,
		"v1.2.3+20060102150405-a.0.-b": "v1.2.4-0." + segment + "+20060102150405-a.0.-b",
	} {
		makes(t, "v0", base, noon, digits, want)
	}
	for _, base := range []string{
		"x", "v", "1.2.3", "V1.2.3", "v01.2.3", "v1.02.3", "v1.2.03", "v1.", "v1.2.", "v1.2.3.", "v1.2.3.4", "v1.2.3-", "v1.2.3+", "v1.2.3-01", "v1.2.3-a..b", "v1-a", "v1.2-a", "v1.2+a", "v1+a", "v1.2.3-a+", "v1.2.3+a+b", " v1.2.3", "v1.2.3 ", "v1.2.3\n", "latest", "\x00", " ",
		"v1.2.3-" + strings.Repeat("a", 94), "v" + strings.Repeat("7", 100), "v1.2.3+" + strings.Repeat("a", 1<<20),
	} {
		refuses(t, "v0", base, noon, digits, api.ErrForm)
		refuses(t, "v1", base, noon, digits, api.ErrForm)
		refuses(t, "", base, noon, digits, api.ErrForm)
	}
}

// P21.1, P21.2: a third number that ends in 9s, and one of many digits.
func TestMakePatch(t *testing.T) {
	for number, next := range map[string]string{
		"0": "1", "1": "2", "8": "9", "9": "10", "10": "11", "19": "20", "89": "90", "90": "91", "99": "100", "100": "101", "109": "110", "199": "200", "909": "910", "989": "990", "998": "999", "999": "1000", "1099": "1100", "9899": "9900", "9999": "10000",
		"2147483647": "2147483648", "4294967295": "4294967296", "9223372036854775807": "9223372036854775808", "18446744073709551615": "18446744073709551616", "18446744073709551616": "18446744073709551617",
		strings.Repeat("9", 40):               "1" + strings.Repeat("0", 40),
		"1" + strings.Repeat("0", 40):         "1" + strings.Repeat("0", 39) + "1",
		"1" + strings.Repeat("9", 40):         "2" + strings.Repeat("0", 40),
		strings.Repeat("1234567890", 4):       strings.Repeat("1234567890", 3) + "1234567891",
		strings.Repeat("1234567890", 4) + "9": strings.Repeat("1234567890", 3) + "12345678910",
	} {
		makes(t, "v0", "v1.9."+number, noon, digits, "v1.9."+next+"-0."+segment)
		makes(t, "v0", "v1.9."+number+"+b", noon, digits, "v1.9."+next+"-0."+segment+"+b")
		makes(t, "v0", "v1.9."+number+"-a", noon, digits, "v1.9."+number+"-a.0."+segment)
	}
	for n := range 11000 {
		makes(t, "v0", "v0.0."+strconv.Itoa(n), noon, digits, "v0.0."+strconv.Itoa(n+1)+"-0."+segment)
	}
}

// P21.1: the seconds of the calendar, and those beyond.
func TestMakeTime(t *testing.T) {
	for second, stamp := range map[int]string{
		calendar.Least: "00010101000000", calendar.Least + 1: "00010101000001", calendar.Greatest: "99991231235959", calendar.Greatest - 1: "99991231235958",
		0: "19700101000000", -1: "19691231235959", 1: "19700101000001", 951782400: "20000229000000", noon: "20060102150405", 1 << 31: "20380119031408", 1 << 32: "21060207062816",
	} {
		makes(t, "v3", "", second, digits, "v3.0.0-"+stamp+"-"+digits)
		makes(t, "v3", "v3.4.5", second, digits, "v3.4.6-0."+stamp+"-"+digits)
		makes(t, "v3", "v3.4.5-a", second, digits, "v3.4.5-a.0."+stamp+"-"+digits)
	}
	for _, second := range []int{calendar.Least - 1, calendar.Greatest + 1, calendar.Least - 86400, calendar.Greatest + 86400, -1 << 40, 1 << 40, math.MinInt, math.MaxInt, math.MinInt + 1, math.MaxInt - 1} {
		refuses(t, "v3", "", second, digits, api.ErrArg)
		refuses(t, "v3", "v3.4.5", second, digits, api.ErrArg)
		refuses(t, "v3", "v3.4.5-a", second, digits, api.ErrArg)
	}
}

// P21.1: twelve small hexadecimal digits, and what isn't that.
func TestMakeId(t *testing.T) {
	for _, id := range []string{"000000000000", "ffffffffffff", "0123456789ab", "cdef01234567", "999999999999"} {
		makes(t, "v0", "", noon, id, "v0.0.0-20060102150405-"+id)
		makes(t, "v0", "v1", noon, id, "v1.0.1-0.20060102150405-"+id)
	}
	for _, id := range []string{
		"", "a", "abcdefabcde", "abcdefabcdefa", "abcdefabcd", "abcdefabcdefab", "ABCDEFABCDEF", "Abcdefabcdef", "abcdefabcdeF", "abcdefabcdeg", "gbcdefabcdef", "abcdef-bcdef", "abcdef.bcdef", "abcdef bcdef", "abcdefabcde\n", "\nabcdefabcde", "abcdefabcdef\n", "éabcdefabcd",
		strings.Repeat("a", 40), strings.Repeat("a", 12+256), strings.Repeat("a", 1<<20),
	} {
		refuses(t, "v0", "", noon, id, api.ErrArg)
		refuses(t, "v0", "v1.2.3", noon, id, api.ErrArg)
	}
	for c := range 256 {
		small := c >= '0' && c <= '9' || c >= 'a' && c <= 'f'
		for at := range 12 {
			id := digits[:at] + string([]byte{byte(c)}) + digits[at+1:]
			if small {
				makes(t, "v0", "", noon, id, "v0.0.0-20060102150405-"+id)
			} else {
				refuses(t, "v0", "", noon, id, api.ErrArg)
			}
		}
	}
}

// P21.1: answers of 100 bytes and of 101.
func TestMakeLength(t *testing.T) {
	for _, form := range []struct{ major, ahead, behind, answer string }{
		{"v", "", "", "v.0.0-" + segment},
		{"", "v", "", "v.0.1-0." + segment},
		{"", "v", ".2", "v.2.1-0." + segment},
		{"", "v1.", "", "v1..1-0." + segment},
		{"", "v1.2.", "", "v1.2.-0." + segment},
		{"", "v1.2.3-", "", "v1.2.3-.0." + segment},
		{"", "v1.2.3-", "+b", "v1.2.3-.0." + segment + "+b"},
		{"", "v1.2.3+", "", "v1.2.4-0." + segment + "+"},
		{"", "v1.2.3-a+", "", "v1.2.3-a.0." + segment + "+"},
	} {
		room := 100 - len(form.answer)
		for n := room - 2; n <= room+2; n++ {
			long := strings.Repeat("7", n)
			major, base := form.major+long, ""
			if form.ahead != "" {
				base = form.ahead + long + form.behind
			}
			s, e := Make(major, base, noon, digits)
			if n > room {
				refuses(t, major, base, noon, digits, api.ErrBig)
			} else if makes(t, major, base, noon, digits, s); e != api.OK || len(s) != 100-room+n {
				t.Errorf("Make(%q, %q): %d bytes, %d", major, base, len(s), e)
			}
		}
	}
	// One digit more in the third number is one byte more.
	number := strings.Repeat("9", 65)
	makes(t, "", "v1.2."+number[1:], noon, digits, "v1.2.1"+strings.Repeat("0", 64)+"-0."+segment)
	refuses(t, "", "v1.2."+number, noon, digits, api.ErrBig)
	makes(t, "", "v1.2."+number[:64]+"8", noon, digits, "v1.2."+number+"-0."+segment)
	makes(t, "", "v1.2.8"+number[:64], noon, digits, "v1.2.9"+strings.Repeat("0", 64)+"-0."+segment)
	for _, base := range []string{"v" + strings.Repeat("7", 99), "v1.2.3-" + strings.Repeat("a", 93), "v1.2.3+" + strings.Repeat("a", 93)} {
		refuses(t, "", base, noon, digits, api.ErrBig)
	}
	refuses(t, "v"+strings.Repeat("7", 99), "", noon, digits, api.ErrBig)
}

// P21.1: which of several errors counts.
func TestMakeErrorOrder(t *testing.T) {
	tooLong := "v" + strings.Repeat("7", 99)
	for _, base := range []string{"", "x", "v1.2.3", tooLong, strings.Repeat("v", 200)} {
		for _, major := range []string{"", "v0", "v01", tooLong, tooLong + "7"} {
			refuses(t, major, base, calendar.Greatest+1, digits, api.ErrArg)
			refuses(t, major, base, calendar.Least-1, digits, api.ErrArg)
			refuses(t, major, base, noon, "abcdefabcdeF", api.ErrArg)
			refuses(t, major, base, math.MaxInt, "", api.ErrArg)
		}
	}
	refuses(t, tooLong, "x", noon, digits, api.ErrForm)
	refuses(t, tooLong+"7", "", noon, digits, api.ErrForm)
	refuses(t, "v0", tooLong+"7", noon, digits, api.ErrForm)
}

// P21.3: a base, its pseudo-versions in the order of their seconds, those above them, the next release.
func TestOrder(t *testing.T) {
	for base, next := range map[string]string{
		"": "v4.0.0", "v4": "v4.0.1", "v4.5": "v4.5.1", "v4.5.6": "v4.5.7", "v4.5.9": "v4.5.10", "v4.5.99+b": "v4.5.100", "v4.5.6-pre": "v4.5.6", "v4.5.6-pre.1": "v4.5.6", "v4.5.6-0": "v4.5.6", "v4.5.6-pre+b": "v4.5.6", "v4.5.0-9": "v4.5.0", "v4.5.0-a.b.c": "v4.5.0",
		"v4.0.0-" + segment: "v4.0.0", "v4.0.9-0." + segment: "v4.0.9",
	} {
		ahead := base
		for _, second := range []int{calendar.Least, -1, 0, 1, 951782400, noon, noon + 1, 1 << 33, calendar.Greatest} {
			for _, id := range []string{"000000000000", "0123456789ab", "abcdefabcdef", "ffffffffffff"} {
				s, e := Make("v4", base, second, id)
				if e != api.OK || semver.Compare(ahead, s) != -1 || semver.Compare(s, next) != -1 {
					t.Errorf("%q: %q, %d, doesn't stand between %q and %q", base, s, e, ahead, next)
				}
				ahead = s
			}
		}
	}
	// All that may stand above a base stands behind its pseudo-versions.
	for base, above := range map[string][]string{
		"v4.5.6":     {"v4.5.7-1", "v4.5.7-a", "v4.5.7-0.a", "v4.5.7", "v4.6.0-0"},
		"v4.5.6-pre": {"v4.5.6-pre.1", "v4.5.6-pre.a", "v4.5.6-pre0", "v4.5.6", "v4.5.7-0"},
	} {
		s, _ := Make("", base, calendar.Greatest, "ffffffffffff")
		for _, other := range above {
			if semver.Compare(s, other) != -1 {
				t.Errorf("%q isn't ahead of %q", s, other)
			}
		}
	}
}

// pick: one of them, by chance.
func pick(random *rand.Rand, l ...string) string {
	return l[random.Intn(len(l))]
}

// chanceVersion: a version, or what is nearly one.
func chanceVersion(random *rand.Rand) string {
	n := func() string {
		return pick(random, "0", "0", "1", "9", "10", "99", "100", "18446744073709551615", strings.Repeat("9", 30), "01")
	}
	word := func() string {
		return pick(random, "0", "0", "1", "a", "-", "a-b", "pre", "20060102150405", segment, "00a", "01")
	}
	words := func() string {
		s := word()
		for range random.Intn(3) {
			s += "." + word()
		}
		return s
	}
	s := "v" + n()
	for range random.Intn(3) {
		s += "." + n()
	}
	if strings.Count(s, ".") == 2 && random.Intn(2) == 0 {
		s += "-" + words()
	}
	if strings.Count(s, ".") == 2 && random.Intn(3) == 0 {
		s += "+" + words()
	}
	return s
}

// P21.1, P21.2, P21.3: by chance, against the words.
func TestMakeByChance(t *testing.T) {
	random := rand.New(rand.NewSource(21))
	made, refused := 0, 0
	for range 40000 {
		major, base := "v"+pick(random, "0", "1", "2", "10", "01", "1.0", strings.Repeat("8", 69)), ""
		if random.Intn(5) > 0 {
			base = chanceVersion(random)
		}
		second := calendar.Least + random.Intn(calendar.Greatest-calendar.Least+1)
		if random.Intn(50) == 0 {
			second = pickNumber(random, calendar.Least-1, calendar.Greatest+1)
		}
		id := pick(random, digits, "0123456789ab", "ffffffffffff", "000000000000")
		if random.Intn(50) == 0 {
			id = id[1:] + pick(random, "", "G", "A", "00")
		}
		want, e := makeByWords(major, base, second, id)
		if e == api.OK {
			made++
			makes(t, major, base, second, id, want)
		} else {
			refused++
			refuses(t, major, base, second, id, e)
		}
	}
	if made < 10000 || refused < 5000 {
		t.Errorf("%d made, %d refused", made, refused)
	}
}

func pickNumber(random *rand.Rand, l ...int) int {
	return l[random.Intn(len(l))]
}
