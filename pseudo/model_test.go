package pseudo

import (
	"math/big"
	"regexp"
	"strings"
	"testing"
	"time"

	"cartulary/api"
	"cartulary/semver"
)

// What a version and a segment are made of, as the document says it.
const (
	numberForm  = `(?:0|[1-9][0-9]*)`
	preForm     = `(?:0|[1-9][0-9]*|[0-9]*[a-zA-Z-][0-9a-zA-Z-]*)`
	buildForm   = `(\+[0-9a-zA-Z-]+(?:\.[0-9a-zA-Z-]+)*)?`
	segmentForm = `([0-9]{14})-([0-9a-f]{12})`
	presForm    = preForm + `(?:\.` + preForm + `)*`
)

var (
	majorOnly  = regexp.MustCompile(`\Av` + numberForm + `\z`)
	anyVersion = regexp.MustCompile(`\A(v` + numberForm + `(?:\.` + numberForm + `)?)\z|\A(v` + numberForm + `\.` + numberForm + `\.)(` + numberForm + `)(-` + presForm + `)?` + buildForm + `\z`)
	firstForm  = regexp.MustCompile(`\Av` + numberForm + `\.0\.0-` + segmentForm + `\z`)
	secondForm = regexp.MustCompile(`\A(v` + numberForm + `\.` + numberForm + `\.` + numberForm + `-` + presForm + `)\.0\.` + segmentForm + buildForm + `\z`)
	twelve     = regexp.MustCompile(`\A[0-9a-f]{12}\z`)
	cutBase    = regexp.MustCompile(`\A(v[0-9]+\.[0-9]+\.)([0-9]+)(-[^+]*)?(.*)\z`)
	thirdForm  = regexp.MustCompile(`\A(v` + numberForm + `\.` + numberForm + `\.)([1-9][0-9]*)-0\.` + segmentForm + buildForm + `\z`)
)

// plus: a number in decimal, and so much.
func plus(number string, n int64) string {
	x, _ := new(big.Int).SetString(number, 10)
	return x.Add(x, big.NewInt(n)).String()
}

// secondOf: the second of fourteen digits, by the library's calendar.
func secondOf(stamp string) (int, bool) {
	at, err := time.Parse("20060102150405", stamp)
	if err != nil || at.Year() < 1 {
		return 0, false
	}
	return int(at.Unix()), true
}

// parseByWords: the document's words on Parse.
func parseByWords(s string) (Parts, api.Errno) {
	m := anyVersion.FindStringSubmatch(s)
	if m == nil || len(s) > 100 || m[1] != "" {
		return Parts{}, api.ErrForm
	}
	var base, stamp, rev string
	if m := firstForm.FindStringSubmatch(s); m != nil {
		stamp, rev = m[1], m[2]
	} else if m := secondForm.FindStringSubmatch(s); m != nil {
		base, stamp, rev = m[1]+m[4], m[2], m[3]
	} else if m := thirdForm.FindStringSubmatch(s); m != nil {
		base, stamp, rev = m[1]+plus(m[2], -1)+m[5], m[3], m[4]
	}
	second, ok := secondOf(stamp)
	if !ok {
		return Parts{}, api.ErrText
	}
	return Parts{Base: base, Time: second, Rev: rev}, api.OK
}

// whole: a version with all numbers; empty: it is none.
func whole(s string) string {
	m := anyVersion.FindStringSubmatch(s)
	if m == nil || len(s) > 100 {
		return ""
	}
	if m[1] == "" {
		return s
	}
	return s + strings.Repeat(".0", 2-strings.Count(s, "."))
}

// makeByWords: the document's words on Make.
func makeByWords(major, base string, second int, id string) (string, api.Errno) {
	if second < -62135596800 || second > 253402300799 || !twelve.MatchString(id) {
		return "", api.ErrArg
	}
	segment := time.Unix(int64(second), 0).UTC().Format("20060102150405") + "-" + id
	s := major + ".0.0-" + segment
	if base == "" && (len(major) > 100 || !majorOnly.MatchString(major)) || base != "" && whole(base) == "" {
		return "", api.ErrForm
	}
	if base != "" {
		m := cutBase.FindStringSubmatch(whole(base))
		s = m[1] + plus(m[2], 1) + "-0." + segment + m[4]
		if m[3] != "" {
			s = m[1] + m[2] + m[3] + ".0." + segment + m[4]
		}
	}
	if len(s) > 100 {
		return "", api.ErrBig
	}
	return s, api.OK
}

// parses holds Parse and Is against what the document asks of a pseudo-version.
func parses(t *testing.T, s string, want Parts) {
	t.Helper()
	if p, e := Parse(s); p != want || e != api.OK {
		t.Errorf("Parse(%q): %+v, %d, not %+v", s, p, e, want)
	}
	if p, e := parseByWords(s); p != want || e != api.OK {
		t.Errorf("by the words, %q: %+v, %d, not %+v", s, p, e, want)
	}
	if !Is(s) {
		t.Errorf("Is(%q): false", s)
	}
}

// fails holds them against what it asks of what is none.
func fails(t *testing.T, s string, want api.Errno) {
	t.Helper()
	if p, e := Parse(s); p != (Parts{}) || e != want {
		t.Errorf("Parse(%q): %+v, %d, not %d", s, p, e, want)
	}
	if p, e := parseByWords(s); p != (Parts{}) || e != want {
		t.Errorf("by the words, %q: %+v, %d, not %d", s, p, e, want)
	}
	if Is(s) {
		t.Errorf("Is(%q): true", s)
	}
}

// makes holds Make against a version that the document asks for; it is read back, and stands where it should (P21.2, P21.3).
func makes(t *testing.T, major, base string, second int, id, want string) {
	t.Helper()
	if s, e := Make(major, base, second, id); s != want || e != api.OK {
		t.Errorf("Make(%q, %q, %d, %q): %q, %d, not %q", major, base, second, id, s, e, want)
	}
	if s, e := makeByWords(major, base, second, id); s != want || e != api.OK {
		t.Errorf("by the words, %q, %q, %d, %q: %q, %d, not %q", major, base, second, id, s, e, want)
	}
	parses(t, want, Parts{Base: whole(base), Time: second, Rev: id})
	placed(t, want, major, base)
}

// placed: behind its base, and ahead of the next release.
func placed(t *testing.T, s, major, base string) {
	t.Helper()
	next := major
	if base != "" {
		m := cutBase.FindStringSubmatch(whole(base))
		next = m[1] + m[2]
		if m[3] == "" {
			next = m[1] + plus(m[2], 1)
		}
	}
	if semver.Compare(base, s) != -1 || semver.Compare(s, next) != -1 {
		t.Errorf("%q doesn't stand between %q and %q", s, base, next)
	}
}

// refuses holds Make against an error that the document asks for.
func refuses(t *testing.T, major, base string, second int, id string, want api.Errno) {
	t.Helper()
	if s, e := Make(major, base, second, id); s != "" || e != want {
		t.Errorf("Make(%q, %q, %d, %q): %q, %d, not %d", major, base, second, id, s, e, want)
	}
	if s, e := makeByWords(major, base, second, id); s != "" || e != want {
		t.Errorf("by the words, %q, %q, %d, %q: %q, %d, not %d", major, base, second, id, s, e, want)
	}
}
