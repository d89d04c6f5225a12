package value

import "fasti/api"

const (
	maxInt = int(^uint(0) >> 1)
	minInt = -maxInt - 1
)

// state is how much of a textual form has been read.
type state int

const (
	atStart    state = iota // nothing: any value may follow
	afterMinus              // a digit other than 0 must follow
	afterZero               // a whole integer that cannot go on
	inInteger               // a whole integer that may go on
	inString                // a code point of a string, or its end, must follow
	afterSlash              // the rest of an escape must follow
	afterX                  // both digits of a control code must follow
	afterHigh               // the second digit of a control code must follow
	atEnd                   // a whole string
)

// reader reads a textual form code point by code point.
type reader struct {
	state    state
	positive bool
	n        int // the integer so far, counted below 0 whatever its sign
	overflow bool
	text     []byte
	high     rune
}

// read takes the next code point, and panics with a misfit if no textual form
// goes on with it.
func (r *reader) read(at int, c rune) {
	fits := false
	switch r.state {
	case atStart:
		fits = r.readFirst(c)
	case afterMinus:
		fits = c != '0' && r.readDigit(c)
	case inInteger:
		fits = r.readDigit(c)
	case inString:
		fits = r.readPoint(c)
	case afterSlash:
		fits = r.readEscape(c)
	case afterX:
		fits = r.readHigh(c)
	case afterHigh:
		fits = r.readLow(c)
	}
	if !fits {
		panic(misfit(at))
	}
}

func (r *reader) readFirst(c rune) bool {
	switch c {
	case '"':
		r.state = inString
	case '-':
		r.state = afterMinus
	case '0':
		r.state = afterZero
	default:
		r.positive = true
		return r.readDigit(c)
	}
	return true
}

func (r *reader) readDigit(c rune) bool {
	if c < '0' || c > '9' {
		return false
	}
	r.state = inInteger
	r.addDigit(int(c - '0'))
	return true
}

// addDigit counts below 0, since the least integer has no positive counterpart.
func (r *reader) addDigit(digit int) {
	if r.overflow || r.n < (minInt+digit)/10 {
		r.overflow = true
		return
	}
	r.n = r.n*10 - digit
}

func (r *reader) readPoint(c rune) bool {
	switch {
	case c == '"':
		r.state = atEnd
	case c == '\\':
		r.state = afterSlash
	case isControl(c):
		return false
	default:
		r.addPoint(c)
	}
	return true
}

func (r *reader) readEscape(c rune) bool {
	switch c {
	case '"', '\\':
		r.addPoint(c)
	case 'n':
		r.addPoint('\n')
	case 'x':
		r.state = afterX
	default:
		return false
	}
	return true
}

// readHigh refuses the digits that no control code begins with, so that the
// misfit is at the first of the two digits.
func (r *reader) readHigh(c rune) bool {
	if c != '0' && c != '1' && c != '7' {
		return false
	}
	r.state = afterHigh
	r.high = c - '0'
	return true
}

func (r *reader) readLow(c rune) bool {
	var low rune
	switch {
	case '0' <= c && c <= '9':
		low = c - '0'
	case 'a' <= c && c <= 'f':
		low = c - 'a' + 10
	default:
		return false
	}
	point := r.high<<4 | low
	if point == '\n' || !isControl(point) {
		return false
	}
	r.addPoint(point)
	return true
}

// addPoint keeps no more of a string than shows that it is too long.
func (r *reader) addPoint(c rune) {
	r.state = inString
	if len(r.text) <= api.MaxText {
		r.text = append(r.text, string(c)...)
	}
}

// complete reports whether what has been read is the form of a value.
func (r *reader) complete() bool {
	return r.state == afterZero || r.state == inInteger || r.state == atEnd
}

func (r *reader) tooBig() bool {
	return r.overflow || r.positive && r.n == minInt || len(r.text) > api.MaxText
}

func (r *reader) value() api.Value {
	switch {
	case r.state == atEnd:
		return api.Value{Kind: api.VText, S: string(r.text)}
	case r.positive:
		return api.Value{Kind: api.VNum, N: -r.n}
	}
	return api.Value{Kind: api.VNum, N: r.n}
}
