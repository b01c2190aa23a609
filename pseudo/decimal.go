package pseudo

// oneMore: the number behind a number in decimal; digit by digit, since it may have more of them than an int holds.
func oneMore(number string) string {
	digits := []byte(number)
	at := len(digits) - 1
	for at >= 0 && digits[at] == '9' {
		digits[at] = '0'
		at--
	}
	if at < 0 {
		return "1" + string(digits)
	}
	digits[at]++
	return string(digits)
}

// oneLess: the number ahead of a number above 0.
func oneLess(number string) string {
	digits := []byte(number)
	at := len(digits) - 1
	for at > 0 && digits[at] == '0' {
		digits[at] = '9'
		at--
	}
	digits[at]--
	if len(digits) > 1 && digits[0] == '0' {
		digits = digits[1:]
	}
	return string(digits)
}
