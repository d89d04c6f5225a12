package object

import (
	"fasti/api"
	"fasti/cell"
)

// objectCell returns the cell of a valid object.
func objectCell(o api.Object) api.Cell {
	kind := cell.Num(int(o.Kind))
	if o.Kind == api.ONode {
		return cell.List(kind, cell.Text(o.Label), listCell(o.Rows, rowCell), listCell(o.Kids, kidCell))
	}
	return cell.List(kind, listCell(o.Parents, cell.Text), cell.Num(o.Stamp), cell.Text(o.Note), cell.Text(o.Root))
}

func rowCell(r api.Row) api.Cell {
	v := cell.Num(r.V.N)
	if r.V.Kind == api.VText {
		v = cell.Text(r.V.S)
	}
	return cell.List(cell.Num(r.From), cell.Num(r.To), v)
}

func kidCell(k api.Kid) api.Cell {
	return cell.List(cell.Num(int(k.First)), cell.Text(k.Id))
}

// listCell returns the list of the cells of all items.
func listCell[T any](items []T, cellOf func(T) api.Cell) api.Cell {
	var l []api.Cell
	for _, item := range items {
		l = append(l, cellOf(item))
	}
	return cell.List(l...)
}
