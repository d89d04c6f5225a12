package digest

import "fasti/api"

const digits = "0123456789abcdef"

// Hex returns two digits for each byte of s.
func Hex(s string) string {
	out := make([]byte, 0, 2*len(s))
	for i := range len(s) {
		out = append(out, digits[s[i]>>4], digits[s[i]&15])
	}
	return string(out)
}

// Unhex returns the string whose Hex is s, or ErrFormat.
func Unhex(s string) (string, api.Errno) {
	if len(s)%2 != 0 {
		return "", api.ErrFormat
	}
	out := make([]byte, 0, len(s)/2)
	for i := 0; i < len(s); i += 2 {
		high, isHigh := digit(s[i])
		low, isLow := digit(s[i+1])
		if !isHigh || !isLow {
			return "", api.ErrFormat
		}
		out = append(out, high<<4|low)
	}
	return string(out), api.OK
}

// digit returns what a digit stands for, and whether c is one.
func digit(c byte) (byte, bool) {
	switch {
	case '0' <= c && c <= '9':
		return c - '0', true
	case 'a' <= c && c <= 'f':
		return c - 'a' + 10, true
	}
	return 0, false
}
