package cell

import "fasti/api"

// The numbers for the kinds, in the first byte of an encoding.
const (
	naturalMark  = 0x10
	negativeMark = 0x20
	textMark     = 0x30
	listMark     = 0x40
)

// markAndBase returns what the first bytes of the encoding of a valid cell are
// made of.
func markAndBase(c api.Cell) (mark byte, base int) {
	switch {
	case c.Kind == api.CText:
		return textMark, len(c.S)
	case c.Kind == api.CList:
		return listMark, len(c.L)
	case c.N < 0:
		return negativeMark, -(c.N + 1)
	}
	return naturalMark, c.N
}

// appendCell appends the encoding of a valid cell.
func appendCell(out []byte, c api.Cell) []byte {
	mark, base := markAndBase(c)
	out = append(out, mark+byte(width(base)))
	out = appendBase(out, base)
	out = append(out, c.S...)
	for _, element := range c.L {
		out = appendCell(out, element)
	}
	return out
}

// size returns the length of the encoding of a valid cell.
func size(c api.Cell) int {
	_, base := markAndBase(c)
	n := 1 + width(base) + len(c.S)
	for _, element := range c.L {
		n += size(element)
	}
	return n
}

// width returns the number of base bytes.
func width(base int) int {
	n := 0
	for ; base > 0; base >>= 8 {
		n++
	}
	return n
}

func appendBase(out []byte, base int) []byte {
	if base == 0 {
		return out
	}
	return append(appendBase(out, base>>8), byte(base))
}
