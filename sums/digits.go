package sums

const (
	hexDigits    = "0123456789abcdef"
	base64Digits = "ABCDEFGHIJKLMNOPQRSTUVWXYZabcdefghijklmnopqrstuvwxyz0123456789+/"
)

// idLength is how many digits an object's name has.
const idLength = 40

// Hex: two small digits a byte.
func Hex(t string) string {
	digits := make([]byte, 0, 2*len(t))
	for i := 0; i < len(t); i++ {
		digits = append(digits, hexDigits[t[i]>>4], hexDigits[t[i]&15])
	}
	return string(digits)
}

// hexValue: the value of a digit; false: it is none. Capitals are none, since Hex never writes them.
func hexValue(c byte) (byte, bool) {
	switch {
	case '0' <= c && c <= '9':
		return c - '0', true
	case 'a' <= c && c <= 'f':
		return c - 'a' + 10, true
	}
	return 0, false
}

// Unhex: the bytes whose Hex is s; false: there are none such.
func Unhex(s string) (string, bool) {
	if len(s)%2 != 0 {
		return "", false
	}
	t := make([]byte, 0, len(s)/2)
	for i := 0; i < len(s); i += 2 {
		high, highOk := hexValue(s[i])
		low, lowOk := hexValue(s[i+1])
		if !highOk || !lowOk {
			return "", false
		}
		t = append(t, high<<4|low)
	}
	return string(t), true
}

// Id: is it an object's name, forty digits as Hex writes them?
func Id(s string) bool {
	if len(s) != idLength {
		return false
	}
	for i := 0; i < len(s); i++ {
		if _, ok := hexValue(s[i]); !ok {
			return false
		}
	}
	return true
}

// Base64: the text of RFC 4648, with = to a multiple of four.
func Base64(t string) string {
	digits := make([]byte, 0, (len(t)+2)/3*4)
	for len(t) >= 3 {
		digits = appendGroup(digits, t[:3])
		t = t[3:]
	}
	if len(t) > 0 {
		digits = appendGroup(digits, t)
	}
	return string(digits)
}

// appendGroup puts the four digits of one to three bytes: one digit more than there are bytes, = for the others.
func appendGroup(digits []byte, group string) []byte {
	bits := FromBig(group) << (8 * (3 - len(group)))
	for i := 0; i < 4; i++ {
		if i > len(group) {
			digits = append(digits, '=')
			continue
		}
		digits = append(digits, base64Digits[bits>>(18-6*i)&63])
	}
	return digits
}
