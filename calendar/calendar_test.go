package calendar

import (
	"math"
	"math/rand"
	"testing"
	"time"

	"cartulary/api"
)

// date: a Date of its numbers.
func date(year, month, day, hour, minute, second, week int) Date {
	return Date{Year: year, Month: month, Day: day, Hour: hour, Minute: minute, Second: second, Week: week}
}

// odd are numbers far away, and such as turn into others where they are cut short.
var odd = []int{math.MinInt, math.MinInt + 1, math.MinInt32, -1 << 32, -1<<32 + 1, -1 << 40, 1 << 32, 1<<32 + 1, 1<<32 + 12, 1<<32 + 2000, 1 << 40, math.MaxInt32, math.MaxInt - 1, math.MaxInt}

// P19.1: the seconds that the calendar begins and ends with.
func TestEnds(t *testing.T) {
	if Least != -62135596800 || Greatest != 253402300799 {
		t.Errorf("Least: %d, Greatest: %d", Least, Greatest)
	}
	if days := (Greatest - Least + 1) / 86400; days != 3652059 || (Greatest-Least+1)%86400 != 0 {
		t.Errorf("%d days", days)
	}
}

// daysByWords: the document's words, month by month.
func daysByWords(year, month int) int {
	switch month {
	case 1, 3, 5, 7, 8, 10, 12:
		return 31
	case 4, 6, 9, 11:
		return 30
	case 2:
		if year%400 == 0 {
			return 29
		}
		if year%100 == 0 {
			return 28
		}
		if year%4 == 0 {
			return 29
		}
		return 28
	}
	return 0
}

// P19.1: the edges that the document names.
func TestDays(t *testing.T) {
	for year, want := range map[int]int{
		1900: 28, 2000: 29, 2004: 29, 2001: 28, 2002: 28, 2003: 28, 2100: 28, 2400: 29, 1: 28, 4: 29, 100: 28, 400: 29, 9999: 28, 9996: 29, 10000: 29, 10100: 28,
		0: 29, -1: 28, -2: 28, -3: 28, -4: 29, -5: 28, -96: 29, -99: 28, -100: 28, -101: 28, -104: 29, -200: 28, -300: 28, -396: 29, -400: 29, -401: 28, -404: 29, -800: 29, -1900: 28, -2000: 29,
		math.MinInt: 29, math.MinInt + 1: 28, math.MinInt + 4: 29, math.MaxInt: 28, math.MaxInt - 3: 29, math.MaxInt - 7: 28,
	} {
		if n := Days(year, 2); n != want {
			t.Errorf("Days(%d, 2): %d, not %d", year, n, want)
		}
	}
	for _, year := range []int{-400, -1, 0, 1, 1900, 1970, 2000, 2004, 9999, 10000} {
		for month, want := range map[int]int{1: 31, 3: 31, 4: 30, 5: 31, 6: 30, 7: 31, 8: 31, 9: 30, 10: 31, 11: 30, 12: 31, 0: 0, 13: 0, 14: 0, 24: 0, -1: 0, -2: 0, -12: 0} {
			if n := Days(year, month); n != want {
				t.Errorf("Days(%d, %d): %d, not %d", year, month, n, want)
			}
		}
	}
}

// P19.1: all years around, against the words and against the library's calendar.
func TestDaysByWords(t *testing.T) {
	for year := -2500; year <= 12500; year++ {
		sum := 0
		for month := -1; month <= 14; month++ {
			n := Days(year, month)
			if want := daysByWords(year, month); n != want {
				t.Fatalf("Days(%d, %d): %d, not %d", year, month, n, want)
			}
			if month >= 1 && month <= 12 {
				if want := time.Date(year, time.Month(month+1), 0, 0, 0, 0, 0, time.UTC).Day(); n != want {
					t.Fatalf("Days(%d, %d): %d, by the library %d", year, month, n, want)
				}
			}
			sum += n
		}
		if sum != 365 && sum != 366 {
			t.Fatalf("the year %d has %d days", year, sum)
		}
	}
	for _, year := range odd {
		for _, month := range odd {
			if n := Days(year, month); n != 0 {
				t.Errorf("Days(%d, %d): %d", year, month, n)
			}
			if n := Days(2000, month); n != 0 {
				t.Errorf("Days(2000, %d): %d", month, n)
			}
		}
		for month := -1; month <= 14; month++ {
			if n, want := Days(year, month), daysByWords(year, month); n != want {
				t.Errorf("Days(%d, %d): %d, not %d", year, month, n, want)
			}
		}
	}
}

// P19.1: the edges that the document names, there and back.
func TestFrom(t *testing.T) {
	for s, want := range map[int]Date{
		0:             date(1970, 1, 1, 0, 0, 0, 4),
		-1:            date(1969, 12, 31, 23, 59, 59, 3),
		1:             date(1970, 1, 1, 0, 0, 1, 4),
		59:            date(1970, 1, 1, 0, 0, 59, 4),
		60:            date(1970, 1, 1, 0, 1, 0, 4),
		3599:          date(1970, 1, 1, 0, 59, 59, 4),
		3600:          date(1970, 1, 1, 1, 0, 0, 4),
		86399:         date(1970, 1, 1, 23, 59, 59, 4),
		86400:         date(1970, 1, 2, 0, 0, 0, 5),
		-86400:        date(1969, 12, 31, 0, 0, 0, 3),
		-86401:        date(1969, 12, 30, 23, 59, 59, 2),
		Least:         date(1, 1, 1, 0, 0, 0, 1),
		Least + 1:     date(1, 1, 1, 0, 0, 1, 1),
		Least + 86399: date(1, 1, 1, 23, 59, 59, 1),
		Least + 86400: date(1, 1, 2, 0, 0, 0, 2),
		Greatest:      date(9999, 12, 31, 23, 59, 59, 5),
		Greatest - 1:  date(9999, 12, 31, 23, 59, 58, 5),
		1136214245:    date(2006, 1, 2, 15, 4, 5, 1),
		2678399:       date(1970, 1, 31, 23, 59, 59, 6),
		2678400:       date(1970, 2, 1, 0, 0, 0, 0),
		5097599:       date(1970, 2, 28, 23, 59, 59, 6),
		5097600:       date(1970, 3, 1, 0, 0, 0, 0),
		31535999:      date(1970, 12, 31, 23, 59, 59, 4),
		31536000:      date(1971, 1, 1, 0, 0, 0, 5),
		951782399:     date(2000, 2, 28, 23, 59, 59, 1),
		951782400:     date(2000, 2, 29, 0, 0, 0, 2),
		951868799:     date(2000, 2, 29, 23, 59, 59, 2),
		951868800:     date(2000, 3, 1, 0, 0, 0, 3),
		978307199:     date(2000, 12, 31, 23, 59, 59, 0),
		1078099199:    date(2004, 2, 29, 23, 59, 59, 0),
		1078099200:    date(2004, 3, 1, 0, 0, 0, 1),
		-2203891201:   date(1900, 2, 28, 23, 59, 59, 3),
		-2203891200:   date(1900, 3, 1, 0, 0, 0, 4),
	} {
		if d, e := From(s); d != want || e != api.OK {
			t.Errorf("From(%d): %+v, %d, not %+v", s, d, e, want)
		}
		if back, e := Unix(want); back != s || e != api.OK {
			t.Errorf("Unix(%+v): %d, %d, not %d", want, back, e, s)
		}
	}
}

// P19.1: seconds that the calendar doesn't have.
func TestFromWrong(t *testing.T) {
	for _, s := range []int{Least - 1, Least - 2, Least - 86400, Greatest + 1, Greatest + 2, Greatest + 86400, 2 * Least, 2 * Greatest, math.MinInt, math.MinInt + 1, math.MaxInt, math.MaxInt - 1, 1 << 60, -1 << 60, 1 << 62} {
		if d, e := From(s); d != (Date{}) || e != api.ErrArg {
			t.Errorf("From(%d): %+v, %d", s, d, e)
		}
	}
}

// P19.1: every weekday, behind the first day and around second 0.
func TestWeek(t *testing.T) {
	for i := range 50 {
		for start, first := range map[int]int{Least: 1, 0: 4, -86400 * 7: 4, 951782400: 2, Greatest + 1 - 86400*71: 5} {
			for _, s := range []int{start + i*86400, start + i*86400 + 1, start + i*86400 + 40000} {
				if d, e := From(s); d.Week != (first+i)%7 || e != api.OK {
					t.Errorf("From(%d): %+v, %d, not weekday %d", s, d, e, (first+i)%7)
				}
			}
		}
	}
}

// P19.1: every day of the calendar, counted on from the first one: its first second, its last one, and back.
func TestEveryDay(t *testing.T) {
	d, s := date(1, 1, 1, 0, 0, 0, 1), Least
	for ; d.Year < 10000; s += 86400 {
		got, e := From(s)
		if got != d || e != api.OK {
			t.Fatalf("From(%d): %+v, %d, not %+v", s, got, e, d)
		}
		if back, e := Unix(d); back != s || e != api.OK {
			t.Fatalf("Unix(%+v): %d, %d, not %d", d, back, e, s)
		}
		last := d
		last.Hour, last.Minute, last.Second = 23, 59, 59
		if got, e := From(s + 86399); got != last || e != api.OK {
			t.Fatalf("From(%d): %+v, %d, not %+v", s+86399, got, e, last)
		}
		d.Week = (d.Week + 1) % 7
		if d.Day++; d.Day > daysByWords(d.Year, d.Month) {
			d.Day = 1
			if d.Month++; d.Month > 12 {
				d.Month = 1
				d.Year++
			}
		}
	}
	if s != Greatest+1 {
		t.Errorf("behind the last day: %d", s)
	}
}

// P19.1: every second of a day.
func TestEverySecond(t *testing.T) {
	for _, day := range []int{Least, -86400, 0, 951782400, Greatest - 86399} {
		first, _ := From(day)
		for n := range 86400 {
			want := first
			want.Hour, want.Minute, want.Second = n/60/60, n/60%60, n%60
			if d, e := From(day + n); d != want || e != api.OK {
				t.Fatalf("From(%d): %+v, %d, not %+v", day+n, d, e, want)
			}
			if back, e := Unix(want); back != day+n || e != api.OK {
				t.Fatalf("Unix(%+v): %d, %d, not %d", want, back, e, day+n)
			}
		}
	}
}

// P19.1: seconds by chance against the library's calendar; Unix(From(t)) is t.
func TestByChance(t *testing.T) {
	random := rand.New(rand.NewSource(1))
	for range 300000 {
		s := Least + int(random.Int63n(Greatest-Least+1))
		l := time.Unix(int64(s), 0).UTC()
		want := date(l.Year(), int(l.Month()), l.Day(), l.Hour(), l.Minute(), l.Second(), int(l.Weekday()))
		d, e := From(s)
		if d != want || e != api.OK {
			t.Fatalf("From(%d): %+v, %d, not %+v", s, d, e, want)
		}
		if back, e := Unix(d); back != s || e != api.OK {
			t.Fatalf("Unix(%+v): %d, %d, not %d", d, back, e, s)
		}
	}
}

// P19.1: the edges that the document names, each with the other numbers right.
func TestUnixEdges(t *testing.T) {
	set := func(d Date, what string, n int) Date {
		switch what {
		case "Year":
			d.Year = n
		case "Month":
			d.Month = n
		case "Day":
			d.Day = n
		case "Hour":
			d.Hour = n
		case "Minute":
			d.Minute = n
		case "Second":
			d.Second = n
		}
		return d
	}
	for what, ends := range map[string][2]int{"Year": {1, 9999}, "Month": {1, 12}, "Day": {1, 31}, "Hour": {0, 23}, "Minute": {0, 59}, "Second": {0, 59}} {
		tries := append([]int{-400, -2, -1, 0, 1, 2, 12, 13, 22, 23, 24, 28, 29, 30, 31, 32, 58, 59, 60, 61, 99, 100, 255, 256, 257, 2000, 9998, 9999, 10000, 10001, 65536, 65537}, odd...)
		for _, n := range tries {
			d := set(date(2000, 1, 9, 8, 7, 6, 0), what, n)
			want, wantE := int(time.Date(d.Year, time.Month(d.Month), d.Day, d.Hour, d.Minute, d.Second, 0, time.UTC).Unix()), api.OK
			if n < ends[0] || n > ends[1] {
				want, wantE = 0, api.ErrArg
			}
			// Every month has a 9th; only the 31st asks for a long month, and this January is one.
			if s, e := Unix(d); s != want || e != wantE {
				t.Errorf("Unix(%+v): %d, %d, not %d, %d", d, s, e, want, wantE)
			}
		}
	}
}

// P19.1: days 0 and 28 to 32 of each month of years that are leap and such as aren't.
func TestUnixDays(t *testing.T) {
	for _, year := range []int{1, 4, 100, 400, 1900, 1999, 2000, 2001, 2004, 2100, 9996, 9999} {
		for month := -1; month <= 14; month++ {
			for day := -2; day <= 40; day++ {
				d := date(year, month, day, 0, 0, 0, 0)
				want, wantE := 0, api.ErrArg
				if day >= 1 && day <= daysByWords(year, month) {
					want, wantE = int(time.Date(year, time.Month(month), day, 0, 0, 0, 0, time.UTC).Unix()), api.OK
				}
				if s, e := Unix(d); s != want || e != wantE {
					t.Errorf("Unix(%+v): %d, %d, not %d, %d", d, s, e, want, wantE)
				}
			}
		}
	}
	for _, d := range []Date{
		{}, {Year: 2000}, {Year: 2000, Month: 1}, {Month: 1, Day: 1}, {Year: 2000, Day: 1},
		date(0, 1, 1, 0, 0, 0, 6), date(0, 2, 29, 0, 0, 0, 2), date(0, 12, 31, 23, 59, 59, 0), date(-4, 2, 29, 0, 0, 0, 0), date(10000, 1, 1, 0, 0, 0, 6), date(10000, 2, 29, 0, 0, 0, 0),
		date(2000, 12, 31, 23, 59, 60, 0), date(2000, 12, 31, 24, 0, 0, 0), date(2000, 12, 31, 23, 60, 0, 0), date(2001, 2, 29, 0, 0, 0, 0), date(-1, -1, -1, -1, -1, -1, -1),
	} {
		if s, e := Unix(d); s != 0 || e != api.ErrArg {
			t.Errorf("Unix(%+v): %d, %d", d, s, e)
		}
	}
}

// P19.1: Week isn't asked.
func TestUnixWeek(t *testing.T) {
	for _, week := range append([]int{-1, 0, 1, 2, 3, 4, 5, 6, 7, 8}, odd...) {
		if s, e := Unix(date(2006, 1, 2, 15, 4, 5, week)); s != 1136214245 || e != api.OK {
			t.Errorf("week %d: %d, %d", week, s, e)
		}
		if s, e := Unix(date(1, 1, 1, 0, 0, 0, week)); s != Least || e != api.OK {
			t.Errorf("week %d: %d, %d", week, s, e)
		}
		if s, e := Unix(date(2006, 2, 30, 15, 4, 5, week)); s != 0 || e != api.ErrArg {
			t.Errorf("week %d: %d, %d", week, s, e)
		}
	}
}
