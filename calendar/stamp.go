package calendar

import (
	"strconv"
	"strings"

	"cartulary/api"
)

const (
	stampDigits = 14
	// century is how many years the last two digits of a year count.
	century = 100
)

// Stamp: fourteen digits, year to second.
func Stamp(t int) (string, api.Errno) {
	return written(t, marks{})
}

// Text: as RFC 3339 writes it, in UTC.
func Text(t int) (string, api.Errno) {
	return written(t, marks{day: "-", middle: "T", time: ":", end: "Z"})
}

// marks stand between and behind the numbers of a second that is written.
type marks struct {
	day, middle, time, end string
}

// written: a second's numbers, with the marks.
func written(t int, m marks) (string, api.Errno) {
	d, e := From(t)
	if e != api.OK {
		return "", e
	}
	day := padded(d.Year, 4) + m.day + padded(d.Month, 2) + m.day + padded(d.Day, 2)
	time := padded(d.Hour, 2) + m.time + padded(d.Minute, 2) + m.time + padded(d.Second, 2)
	return day + m.middle + time + m.end, api.OK
}

// padded: a number in decimal, with as many noughts ahead as make it so wide.
func padded(n, wide int) string {
	text := strconv.Itoa(n)
	return strings.Repeat("0", max(0, wide-len(text))) + text
}

// Unstamp: the second of fourteen digits.
func Unstamp(s string) (int, api.Errno) {
	if len(s) != stampDigits || !digits(s) {
		return 0, api.ErrText
	}
	two := func(at int) int {
		return int(s[at]-'0')*10 + int(s[at+1]-'0')
	}
	return Unix(Date{
		Year:   two(0)*century + two(2),
		Month:  two(4),
		Day:    two(6),
		Hour:   two(8),
		Minute: two(10),
		Second: two(12),
	})
}

// digits: is each byte one of 0 to 9?
func digits(s string) bool {
	for i := range len(s) {
		if s[i] < '0' || s[i] > '9' {
			return false
		}
	}
	return true
}
