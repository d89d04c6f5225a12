package span

import (
	"iter"

	"fasti/api"
	"fasti/value"
)

func isTime(t int) bool {
	return 0 <= t && t <= api.MaxTime
}

func isSpan(from, to int) bool {
	return isTime(from) && isTime(to) && from < to
}

// continues reports whether r must be one row with the row before it.
func continues(before, r api.Row) bool {
	return before.To == r.From && before.V == r.V
}

// overlapping returns those of the valid rows that are not wholly outside the
// span. Its capacity is limited, so that an append to it cannot reach the rows
// behind the span.
func overlapping(l []api.Row, from, to int) []api.Row {
	begin := 0
	for begin < len(l) && l[begin].To <= from {
		begin++
	}
	end := begin
	for end < len(l) && l[end].From < to {
		end++
	}
	return l[begin:end:end]
}

// stretches yields the spans between the times, from 0 on, at which a row or
// a piece begins or ends: each as a row, whose value is VNone where there is
// none, and with the piece that it lies in, or nil. The rows must be valid; the
// pieces must be disjoint spans in increasing order.
func stretches(l []api.Row, d []api.Piece) iter.Seq2[api.Row, *api.Piece] {
	return func(yield func(api.Row, *api.Piece) bool) {
		rows, pieces := l, d
		for from := 0; len(rows) > 0 || len(pieces) > 0; {
			stretch := api.Row{From: from, To: api.MaxTime}
			var around *api.Piece
			if len(rows) > 0 {
				stretch.To = nextEdge(from, rows[0].From, rows[0].To)
				if rows[0].From <= from {
					stretch.V = rows[0].V
				}
			}
			if len(pieces) > 0 {
				stretch.To = min(stretch.To, nextEdge(from, pieces[0].From, pieces[0].To))
				if pieces[0].From <= from {
					around = &pieces[0]
				}
			}
			if !yield(stretch, around) {
				return
			}
			from = stretch.To
			if len(rows) > 0 && rows[0].To == from {
				rows = rows[1:]
			}
			if len(pieces) > 0 && pieces[0].To == from {
				pieces = pieces[1:]
			}
		}
	}
}

// nextEdge returns the first end of a span that is after a time; the span must
// end after it.
func nextEdge(t, from, to int) int {
	if from > t {
		return from
	}
	return to
}

// set returns the rows with the piece's Now in its span, whatever they had.
func set(l []api.Row, p api.Piece) ([]api.Row, api.Errno) {
	if Check(l) != api.OK {
		return nil, api.ErrArg
	}
	if !isSpan(p.From, p.To) {
		return nil, api.ErrSpan
	}
	return replace(l, []api.Piece{p})
}

// replace returns the rows with Now in each piece, whatever they had.
func replace(l []api.Row, d []api.Piece) ([]api.Row, api.Errno) {
	var out []api.Row
	for r, p := range stretches(l, d) {
		if p != nil {
			r.V = p.Now
		}
		if r.V.Kind != api.VNone {
			out = addRow(out, r)
		}
		if len(out) > api.MaxRows {
			return nil, api.ErrBig
		}
	}
	return out, api.OK
}

// addRow appends a row that is not before the last one, so that the rows stay valid.
func addRow(out []api.Row, r api.Row) []api.Row {
	if last := len(out) - 1; last >= 0 && continues(out[last], r) {
		out[last].To = r.To
		return out
	}
	return append(out, r)
}

// asPieces returns pieces that have the rows' values as Now.
func asPieces(l []api.Row) []api.Piece {
	pieces := make([]api.Piece, len(l))
	for i, r := range l {
		pieces[i] = api.Piece{From: r.From, To: r.To, Now: r.V}
	}
	return pieces
}

// arePieces reports whether d can be applied to some rows. Pieces that could
// be joined may stay apart.
func arePieces(d []api.Piece) bool {
	end := 0
	for _, p := range d {
		if p.From < end || !isSpan(p.From, p.To) || p.Had == p.Now || !isValueOrNone(p.Had) || !isValueOrNone(p.Now) {
			return false
		}
		end = p.To
	}
	return true
}

func isValueOrNone(v api.Value) bool {
	return v == api.Value{} || value.Check(v) == api.OK
}
