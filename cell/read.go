package cell

import "fasti/api"

const maxInt = int(^uint(0) >> 1)

// meaning is what the first byte of an encoding says: a natural, a negative, a
// text or a list.
type meaning interface {
	limits() head
}

// head is what is known of the base bytes before they are read.
type head struct {
	width int    // how many there are
	most  uint64 // the greatest base
}

func (h head) limits() head {
	return h
}

type (
	natural  struct{ head }
	negative struct{ head }
	text     struct{ head }
	list     struct{ head }
)

// meaningOf returns nil for a byte that no encoding begins with.
func meaningOf(first byte) meaning {
	width := int(first & 0x0f)
	switch mark := first & 0xf0; {
	case mark == naturalMark && width <= 8:
		return natural{head{width, uint64(maxInt)}}
	case mark == negativeMark && width <= 8:
		return negative{head{width, uint64(maxInt)}}
	case mark == textMark && width <= 2:
		return text{head{width, maxBytes}}
	case mark == listMark && width <= 2:
		return list{head{width, maxCells}}
	}
	return nil
}

// failure is what a reader panics with if no valid cell is encoded.
type failure struct {
	at int
	e  api.Errno
}

type reader struct {
	s  string
	at int
}

// readCell reads a cell of that level: 1 for a cell that is in no list.
func (r *reader) readCell(level int) api.Cell {
	begin := r.at
	m := meaningOf(r.readBytes(1)[0])
	if m == nil {
		panic(failure{begin, api.ErrFormat})
	}
	if level > maxDepth {
		panic(failure{begin, api.ErrBig})
	}
	base := r.readBase(begin, m.limits())
	switch m.(type) {
	case natural:
		return Num(base)
	case negative:
		return Num(-base - 1)
	case text:
		return Text(r.readBytes(base))
	}
	return r.readList(base, level+1)
}

// readBytes panics with ErrShort instead of reading past the end.
func (r *reader) readBytes(n int) string {
	if n > len(r.s)-r.at {
		panic(failure{len(r.s), api.ErrShort})
	}
	r.at += n
	return r.s[r.at-n : r.at]
}

// readBase reads the base of the cell that begins there.
func (r *reader) readBase(begin int, h head) int {
	bytes := r.readBytes(h.width)
	base := uint64(0)
	for i := range len(bytes) {
		base = base<<8 | uint64(bytes[i])
	}
	if h.width > 0 && bytes[0] == 0 || base > h.most {
		panic(failure{begin, api.ErrFormat})
	}
	return int(base)
}

func (r *reader) readList(count, level int) api.Cell {
	var l []api.Cell
	for range count {
		l = append(l, r.readCell(level))
	}
	return api.Cell{Kind: api.CList, L: l}
}
