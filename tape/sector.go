package tape

import (
	"iter"
	"strings"
)

// The fields of a sector begin at these bytes.
const (
	recordAt = 4
	numberAt = 8
	sizeAt   = 10
	dataAt   = 11
	sumAt    = 62

	sectorSize = 64
	dataSize   = sumAt - dataAt
	lastMark   = 128
	sumModulus = 65521
)

// sector is a valid sector of the log.
type sector struct {
	life   int
	record int
	number int // of the part of the record
	last   bool
	data   string
}

// parts visits the sectors that a record is written to, which are one also if it
// is empty.
func parts(life, record int, contents string) iter.Seq[sector] {
	return func(yield func(sector) bool) {
		need := Need(len(contents))
		for i := range need {
			end := min((i+1)*dataSize, len(contents))
			part := sector{life, record, i, i == need-1, contents[i*dataSize : end]}
			if !yield(part) {
				return
			}
		}
	}
}

// text returns the contents of the sector on the drum.
func (s sector) text() string {
	var b [sectorSize]byte
	putNumber(b[:recordAt], s.life)
	putNumber(b[recordAt:numberAt], s.record)
	putNumber(b[numberAt:sizeAt], s.number)
	b[sizeAt] = byte(len(s.data))
	if s.last {
		b[sizeAt] += lastMark
	}
	copy(b[dataAt:sumAt], s.data)
	putNumber(b[sumAt:], checksum(string(b[:sumAt])))
	return string(b[:])
}

// parse returns the sector with the given contents on the drum, if it is valid.
func parse(text string) (sector, bool) {
	last := text[sizeAt] >= lastMark
	size := int(text[sizeAt] % lastMark)
	if size > dataSize || size < dataSize && !last {
		return sector{}, false
	}
	s := sector{
		life:   number(text[:recordAt]),
		record: number(text[recordAt:numberAt]),
		number: number(text[numberAt:sizeAt]),
		last:   last,
		data:   text[dataAt : dataAt+size],
	}
	rest := text[dataAt+size : sumAt]
	valid := s.life > 0 && number(text[sumAt:]) == checksum(text[:sumAt]) && strings.Trim(rest, "\x00") == ""
	if !valid {
		return sector{}, false
	}
	return s, true
}

func checksum(s string) int {
	sum := 0
	for i := range len(s) {
		sum += int(s[i]) * (i + 1)
	}
	return sum % sumModulus
}

// putNumber fills b with n, the most significant byte first.
func putNumber(b []byte, n int) {
	for i := len(b) - 1; i >= 0; i-- {
		b[i] = byte(n)
		n >>= 8
	}
}

func number(s string) int {
	n := 0
	for i := range len(s) {
		n = n<<8 + int(s[i])
	}
	return n
}
