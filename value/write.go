package value

const hexDigits = "0123456789abcdef"

// appendInteger takes the digits from a number below 0, since the least integer
// has no positive counterpart.
func appendInteger(out []byte, n int) []byte {
	if n < 0 {
		return appendDigits(append(out, '-'), n)
	}
	return appendDigits(out, -n)
}

func appendDigits(out []byte, negated int) []byte {
	if negated <= -10 {
		out = appendDigits(out, negated/10)
	}
	return append(out, byte('0'-negated%10))
}

// appendPoint appends a code point as the textual form of a string has it.
func appendPoint(out []byte, c rune) []byte {
	switch {
	case c == '"' || c == '\\':
		return append(out, '\\', byte(c))
	case c == '\n':
		return append(out, '\\', 'n')
	case isControl(c):
		return append(out, '\\', 'x', hexDigits[c>>4], hexDigits[c&15])
	}
	return append(out, string(c)...)
}

// isControl reports whether a textual form never has c as it is, apart from
// quotes and backslashes.
func isControl(c rune) bool {
	return c < 32 || c == 127
}
