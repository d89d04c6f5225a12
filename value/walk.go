package value

// replacement is both a code point of its own and what a range over a string
// yields for each byte that is not UTF-8.
const replacement = '\uFFFD'

// misfit is the error of a string in which a code point is invalid, or cannot
// stand where it is: the offset of its first byte.
type misfit int

func (m misfit) Error() string {
	return "misfit at byte " + string(appendInteger(nil, int(m)))
}

// walk calls visit for each code point of s, with its offset. It panics with
// a misfit at the first one that is not UTF-8.
func walk(s string, visit func(at int, c rune)) {
	for at, c := range s {
		if c == replacement && !startsWith(s[at:], string(replacement)) {
			panic(misfit(at))
		}
		visit(at, c)
	}
}

func startsWith(s, start string) bool {
	return len(s) >= len(start) && s[:len(start)] == start
}
