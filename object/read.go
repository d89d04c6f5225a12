package object

import (
	"math"

	"fasti/api"
)

// shape is what a cell consists of: a number, a text or a list.
type shape interface {
	// value returns what this shape is as the value of a row: no value for a list.
	value() api.Value
}

type (
	number int
	text   string
	list   []api.Cell
)

func (n number) value() api.Value { return api.Value{Kind: api.VNum, N: int(n)} }
func (s text) value() api.Value   { return api.Value{Kind: api.VText, S: string(s)} }
func (l list) value() api.Value   { return api.Value{} }

// shapeOf returns nil for a cell of no kind, and for one that has more than its
// kind does. The cells of a list may be such.
func shapeOf(c api.Cell) shape {
	hasText, hasList := c.S != "", len(c.L) > 0
	switch {
	case c.Kind == api.CNum && !hasText && !hasList:
		return number(c.N)
	case c.Kind == api.CText && c.N == 0 && !hasList:
		return text(c.S)
	case c.Kind == api.CList && c.N == 0 && !hasText:
		return list(c.L)
	}
	return nil
}

// readFields returns the shapes of the cells of a list of that many.
func readFields(c api.Cell, count int) ([]shape, bool) {
	l, ok := shapeOf(c).(list)
	if !ok || len(l) != count {
		return nil, false
	}
	var fields []shape
	for _, field := range l {
		s := shapeOf(field)
		if s == nil {
			return nil, false
		}
		fields = append(fields, s)
	}
	return fields, true
}

// readList returns what the cells of a list are read as.
func readList[T any](s shape, read func(api.Cell) (T, bool)) ([]T, bool) {
	l, ok := s.(list)
	if !ok {
		return nil, false
	}
	var items []T
	for _, c := range l {
		item, ok := read(c)
		if !ok {
			return nil, false
		}
		items = append(items, item)
	}
	return items, true
}

// readObject returns the object that has the cell c, which may not be valid.
func readObject(c api.Cell) (api.Object, bool) {
	if o, ok := readNode(c); ok {
		return o, true
	}
	return readCommit(c)
}

func readNode(c api.Cell) (api.Object, bool) {
	fields, ok := readFields(c, 4)
	if !ok || !isKind(fields[0], api.ONode) {
		return api.Object{}, false
	}
	label, hasLabel := fields[1].(text)
	rows, hasRows := readList(fields[2], readRow)
	kids, hasKids := readList(fields[3], readKid)
	o := api.Object{Kind: api.ONode, Label: string(label), Rows: rows, Kids: kids}
	return o, hasLabel && hasRows && hasKids
}

func readCommit(c api.Cell) (api.Object, bool) {
	fields, ok := readFields(c, 5)
	if !ok || !isKind(fields[0], api.OCommit) {
		return api.Object{}, false
	}
	parents, hasParents := readList(fields[1], readText)
	stamp, hasStamp := fields[2].(number)
	note, hasNote := fields[3].(text)
	root, hasRoot := fields[4].(text)
	o := api.Object{Kind: api.OCommit, Parents: parents, Stamp: int(stamp), Note: string(note), Root: string(root)}
	return o, hasParents && hasStamp && hasNote && hasRoot
}

func isKind(s shape, kind api.ObjKind) bool {
	n, ok := s.(number)
	return ok && n == number(kind)
}

func readRow(c api.Cell) (api.Row, bool) {
	fields, ok := readFields(c, 3)
	if !ok {
		return api.Row{}, false
	}
	from, hasFrom := fields[0].(number)
	to, hasTo := fields[1].(number)
	return api.Row{From: int(from), To: int(to), V: fields[2].value()}, hasFrom && hasTo
}

func readKid(c api.Cell) (api.Kid, bool) {
	fields, ok := readFields(c, 2)
	if !ok {
		return api.Kid{}, false
	}
	first, hasFirst := fields[0].(number)
	id, hasId := fields[1].(text)
	isByte := 0 <= first && first <= math.MaxUint8
	return api.Kid{First: byte(first), Id: string(id)}, hasFirst && isByte && hasId
}

func readText(c api.Cell) (string, bool) {
	s, ok := shapeOf(c).(text)
	return string(s), ok
}
