package span_test

import (
	"slices"
	"testing"

	"fasti/api"
	"fasti/span"
)

// TestApplyRefusesPieces has pieces that are refused whatever the rows have.
func TestApplyRefusesPieces(t *testing.T) {
	bad := [][]api.Piece{
		{{From: 1, To: 2}},
		{{From: 1, To: 2, Had: num(1), Now: num(1)}},
		{{From: 1, To: 2, Had: text("a"), Now: text("a")}},
		{{From: 3, To: 5, Now: num(1)}, {From: 4, To: 6, Now: num(1)}},
		{{From: 3, To: 9, Now: num(1)}, {From: 4, To: 6, Now: num(2)}},
		{{From: 3, To: 5, Now: num(1)}, {From: 3, To: 5, Now: num(1)}},
		{{From: 3, To: 4, Now: num(1)}, {From: 1, To: 2, Now: num(1)}},
		{{From: 3, To: 4, Now: num(1)}, {From: 1, To: 3, Now: num(1)}},
		{{From: 1, To: 2, Now: num(1)}, {From: 5, To: 6, Now: num(1)}, {From: 3, To: 4, Now: num(1)}},
		{{From: 1, To: 2, Now: num(1)}, {From: 5, To: 5, Now: num(1)}},
	}
	for _, s := range notSpans() {
		bad = append(bad, []api.Piece{{From: s[0], To: s[1], Now: num(1)}})
	}
	for _, v := range invalidValues() {
		if v != (api.Value{}) {
			bad = append(bad, []api.Piece{{From: 1, To: 2, Now: v}}, []api.Piece{{From: 1, To: 2, Had: v}},
				[]api.Piece{{From: 1, To: 2, Had: v, Now: num(1)}}, []api.Piece{{From: 1, To: 2, Had: num(1), Now: v}})
		}
	}
	conflict := api.Piece{From: 0, To: 1, Had: num(77), Now: num(78)}
	for _, d := range bad {
		for _, l := range [][]api.Row{nil, {row(0, 9, num(1))}, fullList()} {
			if x, e := span.Apply(l, d); len(x) != 0 || e != api.ErrArg {
				t.Errorf("Apply(%v, %v) = %v, %d, want ErrArg", l, d, x, e)
			}
			if x, e := span.Apply(l, append([]api.Piece{conflict}, d...)); len(x) != 0 || e != api.ErrArg {
				t.Errorf("Apply(%v, %v) behind a conflict = %v, %d, want ErrArg", l, d, x, e)
			}
		}
	}
}

func TestApplyRefusesRows(t *testing.T) {
	for _, l := range invalidLists() {
		for _, d := range [][]api.Piece{nil, {{From: 100, To: 101, Now: num(1)}}, {{From: 0, To: 1, Had: num(77), Now: num(1)}}} {
			if x, e := span.Apply(l, d); len(x) != 0 || e != api.ErrArg {
				t.Errorf("Apply(%v, %v) = %v, %d, want ErrArg", l, d, x, e)
			}
		}
	}
}

func TestApply(t *testing.T) {
	l := []api.Row{row(0, 4, num(1)), row(4, 6, text("b")), row(8, 10, num(1))}
	for _, c := range []struct {
		d    []api.Piece
		want []api.Row
		e    api.Errno
	}{
		{nil, l, api.OK},
		{[]api.Piece{{From: 6, To: 8, Now: num(1)}}, []api.Row{row(0, 4, num(1)), row(4, 6, text("b")), row(6, 10, num(1))}, api.OK},
		{[]api.Piece{{From: 4, To: 6, Had: text("b"), Now: num(1)}, {From: 6, To: 8, Now: num(1)}}, []api.Row{row(0, 10, num(1))}, api.OK},
		{[]api.Piece{{From: 4, To: 6, Had: text("b")}}, []api.Row{row(0, 4, num(1)), row(8, 10, num(1))}, api.OK},
		// pieces that could be one
		{[]api.Piece{{From: 0, To: 1, Had: num(1)}, {From: 1, To: 4, Had: num(1)}}, l[1:], api.OK},
		{[]api.Piece{{From: 10, To: 11, Now: num(2)}, {From: 11, To: 12, Now: num(2)}}, append(slices.Clone(l), row(10, 12, num(2))), api.OK},
		{[]api.Piece{{From: 10, To: api.MaxTime, Now: num(1)}}, []api.Row{l[0], l[1], row(8, api.MaxTime, num(1))}, api.OK},
		// somewhere in a piece there is another value
		{[]api.Piece{{From: 0, To: 5, Had: num(1)}}, nil, api.ErrConflict},
		{[]api.Piece{{From: 3, To: 6, Had: text("b")}}, nil, api.ErrConflict},
		{[]api.Piece{{From: 4, To: 7, Had: text("b")}}, nil, api.ErrConflict},
		{[]api.Piece{{From: 5, To: 8, Now: num(3)}}, nil, api.ErrConflict},
		{[]api.Piece{{From: 6, To: 9, Now: num(3)}}, nil, api.ErrConflict},
		{[]api.Piece{{From: 0, To: 10, Had: num(1)}}, nil, api.ErrConflict},
		{[]api.Piece{{From: 6, To: 8, Had: num(1), Now: num(2)}}, nil, api.ErrConflict},
		{[]api.Piece{{From: 100, To: 101, Had: num(1)}}, nil, api.ErrConflict},
		{[]api.Piece{{From: 0, To: 4, Had: num(1), Now: num(5)}, {From: 4, To: 6, Had: num(1), Now: num(5)}}, nil, api.ErrConflict},
		// Had is what the rows have before, not what an earlier piece makes of them
		{[]api.Piece{{From: 6, To: 7, Now: num(5)}, {From: 7, To: 8, Had: num(5)}}, nil, api.ErrConflict},
	} {
		if x, e := span.Apply(l, c.d); !slices.Equal(x, c.want) || e != c.e {
			t.Errorf("Apply(%v) = %v, %d, want %v, %d", c.d, x, e, c.want, c.e)
		}
	}
}

func TestApplyTooManyRows(t *testing.T) {
	full := fullList()
	extra := api.Piece{From: 2, To: 3, Now: num(-1)}
	gone := api.Piece{From: 9, To: 11, Had: num(3)}
	conflict := api.Piece{From: 1000, To: 1001, Had: num(1)}
	if x, e := span.Apply(full, []api.Piece{extra}); len(x) != 0 || e != api.ErrBig {
		t.Errorf("one more row: %d rows, error %d", len(x), e)
	}
	if x, e := span.Apply(full, []api.Piece{extra, conflict}); len(x) != 0 || e != api.ErrConflict {
		t.Errorf("one more row and a conflict: %d rows, error %d", len(x), e)
	}
	if x, e := span.Apply(full, []api.Piece{extra, gone}); len(x) != api.MaxRows || e != api.OK {
		t.Errorf("one more row and one less: %d rows, error %d", len(x), e)
	}
	var many []api.Piece
	for i := range 200000 {
		many = append(many, api.Piece{From: i, To: i + 1, Now: num(i % 2)})
	}
	if x, e := span.Apply(nil, many); len(x) != 0 || e != api.ErrBig {
		t.Errorf("many pieces: %d rows, error %d", len(x), e)
	}
	if x, e := span.Apply(nil, many[:65]); len(x) != 0 || e != api.ErrBig {
		t.Errorf("65 pieces: %d rows, error %d", len(x), e)
	}
	for i := range many {
		many[i].Now = num(1)
	}
	if x, e := span.Apply(nil, many); !slices.Equal(x, []api.Row{row(0, 200000, num(1))}) || e != api.OK {
		t.Errorf("many pieces of one row: %d rows, error %d", len(x), e)
	}
}
