// Package digits is layer 1, numbers and bytes as digits: see shared/doc/01-digits.md.
package digits

const (
	maxInt      = int(^uint(0) >> 1)
	decBytes    = 20 // the least int: a sign and 19 digits
	octalDigits = 21
	hexDigits   = "0123456789abcdef"
)

// Dec is a number in decimal digits.
func Dec(n int) string {
	rest := uint(n)
	if n < 0 {
		rest = -rest // as an unsigned number, for the least int has no positive one
	}
	var text [decBytes]byte
	first := decBytes
	for i := range decBytes {
		first = decBytes - 1 - i
		text[first] = '0' + byte(rest%10)
		rest /= 10
		if rest == 0 {
			break
		}
	}
	if n < 0 {
		first--
		text[first] = '-'
	}
	return string(text[first:])
}

// Num is the number of decimal digits.
func Num(s string) (int, bool) {
	negative := s != "" && s[0] == '-'
	limit := uint(maxInt)
	if negative {
		s = s[1:]
		limit++
	}
	if s != "" && s[0] == '0' && (negative || len(s) > 1) { // else a number would have several texts
		return 0, false
	}
	size, ok := number(s, 10, limit)
	if !ok {
		return 0, false
	}
	if negative {
		size = -size
	}
	return int(size), true
}

// Octal is a number in so many octal digits.
func Octal(n, digits int) (string, bool) {
	if n < 0 || digits < 1 || digits > octalDigits {
		return "", false
	}
	var text [octalDigits]byte
	for i := range digits {
		text[digits-1-i] = '0' + byte(n%8)
		n /= 8
	}
	if n > 0 {
		return "", false
	}
	return string(text[:digits]), true
}

// FromOctal is the number of octal digits.
func FromOctal(s string) (int, bool) {
	if len(s) > octalDigits {
		return 0, false
	}
	n, ok := number(s, 8, uint(maxInt))
	return int(n), ok
}

// number is what one or more digits of a base denote, if it is at most the limit.
func number(s string, base, limit uint) (uint, bool) {
	if s == "" {
		return 0, false
	}
	n := uint(0)
	for i := range len(s) {
		digit := uint(s[i]) - '0' // bytes below '0' wrap round to more than any base
		if digit >= base || n > (limit-digit)/base {
			return 0, false
		}
		n = n*base + digit
	}
	return n, true
}

// Hex are bytes as pairs of hexadecimal digits.
func Hex(s string) string {
	text := make([]byte, 0, 2*len(s))
	for i := range len(s) {
		text = append(text, hexDigits[s[i]>>4], hexDigits[s[i]&15])
	}
	return string(text)
}

// Unhex are the bytes of such pairs.
func Unhex(s string) (string, bool) {
	if len(s)%2 != 0 {
		return "", false
	}
	text := make([]byte, len(s)/2)
	for i := range text {
		high, low := hexValue(s[2*i]), hexValue(s[2*i+1])
		if high > 15 || low > 15 {
			return "", false
		}
		text[i] = high<<4 | low
	}
	return string(text), true
}

// hexValue is the value of a hexadecimal digit, or more than 15: capital letters are none, so that bytes have one text only.
func hexValue(c byte) byte {
	switch {
	case c >= '0' && c <= '9':
		return c - '0'
	case c >= 'a' && c <= 'f':
		return c - 'a' + 10
	}
	return 16
}
