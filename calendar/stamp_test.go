package calendar

import (
	"fmt"
	"math"
	"math/rand"
	"slices"
	"strings"
	"testing"
	"time"

	"cartulary/api"
)

// tells holds Stamp, Text and Unstamp against what the document asks of a second.
func tells(t *testing.T, s int, stamp, text string) {
	t.Helper()
	if got, e := Stamp(s); got != stamp || e != api.OK {
		t.Errorf("Stamp(%d): %q, %d, not %q", s, got, e, stamp)
	}
	if got, e := Text(s); got != text || e != api.OK {
		t.Errorf("Text(%d): %q, %d, not %q", s, got, e, text)
	}
	if got, e := Unstamp(stamp); got != s || e != api.OK {
		t.Errorf("Unstamp(%q): %d, %d, not %d", stamp, got, e, s)
	}
}

// P19.2: the document's examples, years of fewer than four digits, Least and Greatest.
func TestStamp(t *testing.T) {
	tells(t, 1136214245, "20060102150405", "2006-01-02T15:04:05Z")
	tells(t, 0, "19700101000000", "1970-01-01T00:00:00Z")
	tells(t, -1, "19691231235959", "1969-12-31T23:59:59Z")
	tells(t, Least, "00010101000000", "0001-01-01T00:00:00Z")
	tells(t, Greatest, "99991231235959", "9999-12-31T23:59:59Z")
	tells(t, 951782400, "20000229000000", "2000-02-29T00:00:00Z")
	tells(t, 951868799, "20000229235959", "2000-02-29T23:59:59Z")
	tells(t, -61883568001, "00081226235959", "0008-12-26T23:59:59Z")
	tells(t, -61851600001, "00091231235959", "0009-12-31T23:59:59Z")
	tells(t, -61851600000, "00100101000000", "0010-01-01T00:00:00Z")
	tells(t, -59011459201, "00991231235959", "0099-12-31T23:59:59Z")
	tells(t, -59011459200, "01000101000000", "0100-01-01T00:00:00Z")
	tells(t, -30610224001, "09991231235959", "0999-12-31T23:59:59Z")
	tells(t, -30610224000, "10000101000000", "1000-01-01T00:00:00Z")
}

// P19.2: what lies beyond has the error of From.
func TestStampWrong(t *testing.T) {
	for _, s := range []int{Least - 1, Greatest + 1, Least - 86400*366, Greatest + 86400*366, math.MinInt, math.MaxInt, 1 << 60, -1 << 60} {
		if got, e := Stamp(s); got != "" || e != api.ErrArg {
			t.Errorf("Stamp(%d): %q, %d", s, got, e)
		}
		if got, e := Text(s); got != "" || e != api.ErrArg {
			t.Errorf("Text(%d): %q, %d", s, got, e)
		}
	}
}

// P19.2: seconds by chance against the library's calendar.
func TestStampByChance(t *testing.T) {
	random := rand.New(rand.NewSource(1))
	for i := range 60000 {
		s := Least + int(random.Int63n(Greatest-Least+1))
		if i%4 == 0 {
			s = Least + int(random.Int63n(1100*366*86400))
		}
		l := time.Unix(int64(s), 0).UTC()
		tells(t, s, l.Format("20060102150405"), l.Format(time.RFC3339))
	}
}

// P19.2: stamps are in the order of their seconds.
func TestStampOrder(t *testing.T) {
	random := rand.New(rand.NewSource(2))
	l := []int{Least, Least + 1, -1, 0, 1, Greatest - 1, Greatest}
	for range 20000 {
		s := Least + int(random.Int63n(Greatest-Least))
		l = append(l, s, s+1)
	}
	slices.Sort(l)
	l = slices.Compact(l)
	for i := 1; i < len(l); i++ {
		a, _ := Stamp(l[i-1])
		b, _ := Stamp(l[i])
		if a >= b {
			t.Fatalf("Stamp(%d) = %s, Stamp(%d) = %s", l[i-1], a, l[i], b)
		}
		a, _ = Text(l[i-1])
		b, _ = Text(l[i])
		if a >= b {
			t.Fatalf("Text(%d) = %s, Text(%d) = %s", l[i-1], a, l[i], b)
		}
	}
}

// unstamps holds Unstamp against an error that the document asks for.
func unstamps(t *testing.T, s string, want api.Errno) {
	t.Helper()
	if got, e := Unstamp(s); got != 0 || e != want {
		t.Errorf("Unstamp(%q): %d, %d, not %d", s, got, e, want)
	}
}

// P19.2: 13, 14 and 15 signs, and other numbers of them.
func TestUnstampLength(t *testing.T) {
	const long = "20060102150405"
	for n := range long {
		unstamps(t, long[:n], api.ErrText)
		unstamps(t, long[14-n:], api.ErrText)
	}
	for _, s := range []string{"", "2000", "0", long + "0", "0" + long, long + " ", " " + long, long + "\n", long + "\x00", "+" + long, long + "Z", long + long, strings.Repeat("0", 1<<20), strings.Repeat("1", 15), "2006-01-02T15:04:05Z", "2006010215040", "200601021504050"} {
		unstamps(t, s, api.ErrText)
	}
	if s, e := Unstamp(long); s != 1136214245 || e != api.OK {
		t.Errorf("Unstamp(%q): %d, %d", long, s, e)
	}
}

// P19.2: each byte at each place.
func TestUnstampBytes(t *testing.T) {
	const right = "20060102150405"
	for at := range right {
		for c := range 256 {
			s := right[:at] + string([]byte{byte(c)}) + right[at+1:]
			if c < '0' || c > '9' {
				unstamps(t, s, api.ErrText)
				continue
			}
			l, err := time.Parse("20060102150405", s)
			if err != nil || l.Year() == 0 {
				unstamps(t, s, api.ErrArg)
			} else if got, e := Unstamp(s); got != int(l.Unix()) || e != api.OK {
				t.Errorf("Unstamp(%q): %d, %d, not %d", s, got, e, l.Unix())
			}
		}
	}
	for _, s := range []string{"2006010215040é", "2006010215040٣", "٢٠٠٦٠١٠", "２０００01", "-2006010215040", "+2006010215040", "2006 102150405", "20060102 50405", "2006-1-2150405", "0x060102150405", "2006_102150405", "200601021504.5", "2006010215040e"} {
		unstamps(t, s, api.ErrText)
	}
}

// P19.2: days and times that aren't there; what is no fourteen digits counts ahead of that.
func TestUnstampDays(t *testing.T) {
	for _, s := range []string{
		"19000229000000", "20010229000000", "21000229000000", "20000230000000", "20000431000000", "20000631000000", "20000931000000", "20001131000000", "20000132000000", "20001232000000",
		"20000001000000", "20001301000000", "20009901000000", "20000100000000", "20000199000000", "20000101240000", "20000101990000", "20000101006000", "20000101009900", "20000101000060", "20000101000099",
		"00000101000000", "00000229000000", "00001231235959", "00000000000000", "99999999999999", "20000101240001", "20001231235960",
	} {
		unstamps(t, s, api.ErrArg)
		unstamps(t, s[:13], api.ErrText)
		unstamps(t, s+"0", api.ErrText)
		unstamps(t, s[:13]+"x", api.ErrText)
		unstamps(t, "x"+s[1:], api.ErrText)
	}
	for s, want := range map[string]int{"20000229000000": 951782400, "20000101235959": 946771199, "00010101000000": Least, "99991231235959": Greatest} {
		if got, e := Unstamp(s); got != want || e != api.OK {
			t.Errorf("Unstamp(%q): %d, %d, not %d", s, got, e, want)
		}
	}
}

// P19.2: fourteen digits by chance: the answer of Unix.
func TestUnstampByChance(t *testing.T) {
	random := rand.New(rand.NewSource(3))
	found := 0
	for range 200000 {
		d := Date{Year: random.Intn(10000), Month: random.Intn(15), Day: random.Intn(34), Hour: random.Intn(27), Minute: random.Intn(66), Second: random.Intn(66)}
		if random.Intn(10) == 0 {
			d.Year = random.Intn(3)
		}
		s := fmt.Sprintf("%04d%02d%02d%02d%02d%02d", d.Year, d.Month, d.Day, d.Hour, d.Minute, d.Second)
		want, wantE := Unix(d)
		got, e := Unstamp(s)
		if got != want || e != wantE {
			t.Fatalf("Unstamp(%q): %d, %d, not %d, %d", s, got, e, want, wantE)
		}
		if e == api.OK {
			found++
			if back, e := Stamp(got); back != s || e != api.OK {
				t.Fatalf("Stamp(%d): %q, %d, not %q", got, back, e, s)
			}
		}
	}
	if found < 50000 {
		t.Errorf("only %d seconds", found)
	}
}
