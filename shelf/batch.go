package shelf

import (
	"fasti/api"
	"fasti/cell"
)

const (
	maxObjects = 4095 // of a batch
	maxDepth   = 14   // of its cell
)

// mayBegin reports whether a cell may be that of a batch.
func mayBegin(c api.Cell) bool {
	return cell.Check(c) == api.OK && depth(c) <= maxDepth
}

// depth ends for a valid cell only: another one may contain itself.
func depth(c api.Cell) int {
	deepest := 0
	for _, inner := range c.L {
		deepest = max(deepest, depth(inner))
	}
	return deepest + 1
}

// writeBatch returns the record of a batch.
func writeBatch(c api.Cell, encodings []string) (string, api.Errno) {
	texts := make([]api.Cell, len(encodings))
	for i, encoding := range encodings {
		texts[i] = cell.Text(encoding)
	}
	return cell.Put(cell.List(c, cell.List(texts...)))
}

// readBatch returns the cell and the strings of a record, if it has the form of
// that of a batch. The strings need not be encodings of objects.
func readBatch(record string) (api.Cell, []string, bool) {
	batch, e := cell.Take(record)
	if e != api.OK || batch.Kind != api.CList || len(batch.L) != 2 {
		return api.Cell{}, nil, false
	}
	c, texts := batch.L[0], batch.L[1]
	if !mayBegin(c) || texts.Kind != api.CList {
		return api.Cell{}, nil, false
	}
	encodings := make([]string, len(texts.L))
	for i, text := range texts.L {
		if text.Kind != api.CText {
			return api.Cell{}, nil, false
		}
		encodings[i] = text.S
	}
	return c, encodings, true
}
