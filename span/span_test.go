package span_test

import (
	"math"
	"slices"
	"strings"
	"testing"

	"fasti/api"
	"fasti/span"
)

func num(n int) api.Value     { return api.Value{Kind: api.VNum, N: n} }
func text(s string) api.Value { return api.Value{Kind: api.VText, S: s} }

func row(from, to int, v api.Value) api.Row { return api.Row{From: from, To: to, V: v} }

// fullList has as many rows as there may be, with gaps of one time between them.
func fullList() []api.Row {
	var l []api.Row
	for i := range api.MaxRows {
		l = append(l, row(3*i, 3*i+2, num(i)))
	}
	return l
}

func validLists() [][]api.Row {
	return [][]api.Row{
		nil,
		{},
		{row(0, 1, num(0))},
		{row(0, api.MaxTime, num(math.MinInt))},
		{row(api.MaxTime-1, api.MaxTime, text(""))},
		{row(0, 5, num(1)), row(5, 6, num(2)), row(6, 9, num(1))},
		{row(0, 5, num(1)), row(6, 9, num(1))},
		{row(0, 5, num(0)), row(5, 9, text(""))},
		{row(3, 4, text(strings.Repeat("a", api.MaxText))), row(4, 9, text("\u00fc"))},
		fullList(),
	}
}

func invalidLists() [][]api.Row {
	return [][]api.Row{
		{row(0, 0, num(1))},
		{row(5, 4, num(1))},
		{row(-1, 2, num(1))},
		{row(math.MinInt, 2, num(1))},
		{row(-2, -1, num(1))},
		{row(5, api.MaxTime+1, num(1))},
		{row(5, math.MaxInt, num(1))},
		{row(api.MaxTime, api.MaxTime+1, num(1))},
		{row(0, 5, num(1)), row(4, 6, num(2))},
		{row(0, 5, num(1)), row(0, 5, num(2))},
		{row(5, 6, num(1)), row(0, 1, num(1))},
		{row(0, 9, num(1)), row(3, 4, num(2))},
		{row(0, 5, num(1)), row(5, 6, num(1))},
		{row(0, 5, text("a")), row(5, 6, text("a"))},
		{row(0, 1, num(2)), row(1, 2, num(1)), row(2, 3, num(1))},
		{{From: 0, To: 1}},
		{row(0, 1, api.Value{Kind: 3})},
		{row(0, 1, api.Value{Kind: -1})},
		{row(0, 1, api.Value{Kind: api.VNum, S: "a"})},
		{row(0, 1, api.Value{Kind: api.VText, N: 1})},
		{row(0, 1, text("\xff"))},
		{row(0, 1, text(strings.Repeat("a", api.MaxText+1)))},
		{row(0, 1, num(1)), row(1, 2, text("\xff"))},
		append(fullList(), row(1000, 1001, num(1))),
	}
}

func invalidValues() []api.Value {
	return []api.Value{{}, {N: 1}, {S: "a"}, {Kind: 3}, {Kind: -1}, {Kind: api.VNum, S: "a"}, {Kind: api.VText, N: 1},
		text("\xff"), text(strings.Repeat("a", api.MaxText+1))}
}

// notSpans are pairs that are not times with the first less than the second.
func notSpans() [][2]int {
	return [][2]int{{0, 0}, {5, 5}, {5, 4}, {-1, 5}, {-1, 0}, {-2, -1}, {math.MinInt, 3}, {5, api.MaxTime + 1}, {0, math.MaxInt},
		{api.MaxTime, api.MaxTime}, {api.MaxTime, api.MaxTime + 1}, {api.MaxTime + 1, api.MaxTime + 2}, {math.MinInt, math.MaxInt}, {math.MaxInt, math.MinInt}}
}

func TestCheck(t *testing.T) {
	for _, l := range validLists() {
		if e := span.Check(l); e != api.OK {
			t.Errorf("Check(%v) = %d", l, e)
		}
	}
	for _, l := range invalidLists() {
		if e := span.Check(l); e != api.ErrArg {
			t.Errorf("Check(%v) = %d, want ErrArg", l, e)
		}
	}
}

func TestAt(t *testing.T) {
	l := []api.Row{row(0, 4, num(1)), row(6, 8, text("b")), row(8, 10, num(3)), row(api.MaxTime-1, api.MaxTime, num(4))}
	none := api.Value{}
	for _, c := range []struct {
		t    int
		want api.Value
	}{
		{0, num(1)}, {3, num(1)}, {4, none}, {5, none}, {6, text("b")}, {7, text("b")}, {8, num(3)}, {9, num(3)}, {10, none},
		{api.MaxTime - 2, none}, {api.MaxTime - 1, num(4)}, {api.MaxTime, none}, {api.MaxTime + 1, none},
		{-1, none}, {math.MinInt, none}, {math.MaxInt, none},
	} {
		if v, ok := span.At(l, c.t); v != c.want || ok != (c.want != none) {
			t.Errorf("At(%d) = %v, %t, want %v", c.t, v, ok, c.want)
		}
	}
	for _, l := range invalidLists() {
		for _, at := range []int{l[0].From, l[0].From + 1, 0, l[len(l)-1].From} {
			if v, ok := span.At(l, at); v != none || ok {
				t.Errorf("At(%v, %d) = %v, %t for rows that are not valid", l, at, v, ok)
			}
		}
	}
}

// TestExample is the chapter's example.
func TestExample(t *testing.T) {
	a, e := span.Put(nil, 0, 10, num(7))
	if e != api.OK {
		t.Fatal(e)
	}
	b, e := span.Put(a, 4, 6, num(8))
	if want := []api.Row{row(0, 4, num(7)), row(4, 6, num(8)), row(6, 10, num(7))}; !slices.Equal(b, want) || e != api.OK {
		t.Errorf("Put of 8 yields %v, %d", b, e)
	}
	c, e := span.Put(b, 4, 6, num(7))
	if want := []api.Row{row(0, 10, num(7))}; !slices.Equal(c, want) || e != api.OK {
		t.Errorf("Put of 7 yields %v, %d", c, e)
	}
	if d := span.Diff(b, c); !slices.Equal(d, []api.Piece{{From: 4, To: 6, Had: num(8), Now: num(7)}}) {
		t.Errorf("Diff yields %v", d)
	}
}

func TestPutAndCutAtTheEndsOfTime(t *testing.T) {
	whole := []api.Row{row(0, api.MaxTime, num(1))}
	if l, e := span.Put([]api.Row{row(5, 6, num(2))}, 0, api.MaxTime, num(1)); !slices.Equal(l, whole) || e != api.OK {
		t.Errorf("Put over all times = %v, %d", l, e)
	}
	if l, e := span.Cut(whole, 0, api.MaxTime); len(l) != 0 || e != api.OK {
		t.Errorf("Cut of all times = %v, %d", l, e)
	}
	want := []api.Row{row(0, api.MaxTime-1, num(1)), row(api.MaxTime-1, api.MaxTime, num(2))}
	if l, e := span.Put(whole, api.MaxTime-1, api.MaxTime, num(2)); !slices.Equal(l, want) || e != api.OK {
		t.Errorf("Put at the last time = %v, %d", l, e)
	}
	if l, e := span.Cut(whole, api.MaxTime-1, api.MaxTime); !slices.Equal(l, []api.Row{row(0, api.MaxTime-1, num(1))}) || e != api.OK {
		t.Errorf("Cut of the last time = %v, %d", l, e)
	}
	if l, e := span.Cut(nil, 0, 1); len(l) != 0 || e != api.OK {
		t.Errorf("Cut of no rows = %v, %d", l, e)
	}
}

func TestPutAndCutRefuse(t *testing.T) {
	for _, l := range invalidLists() {
		for _, s := range append(notSpans(), [2]int{0, 5}) {
			if x, e := span.Put(l, s[0], s[1], num(1)); len(x) != 0 || e != api.ErrArg {
				t.Errorf("Put(%v, %v) = %v, %d, want ErrArg", l, s, x, e)
			}
			if x, e := span.Cut(l, s[0], s[1]); len(x) != 0 || e != api.ErrArg {
				t.Errorf("Cut(%v, %v) = %v, %d, want ErrArg", l, s, x, e)
			}
		}
	}
	for _, v := range invalidValues() {
		for _, s := range append(notSpans(), [2]int{0, 5}) {
			if x, e := span.Put(nil, s[0], s[1], v); len(x) != 0 || e != api.ErrArg {
				t.Errorf("Put(%v, %v) = %v, %d, want ErrArg", s, v, x, e)
			}
		}
	}
	for _, l := range validLists() {
		for _, s := range notSpans() {
			if x, e := span.Put(l, s[0], s[1], num(1)); len(x) != 0 || e != api.ErrSpan {
				t.Errorf("Put(%v, %v) = %v, %d, want ErrSpan", l, s, x, e)
			}
			if x, e := span.Cut(l, s[0], s[1]); len(x) != 0 || e != api.ErrSpan {
				t.Errorf("Cut(%v, %v) = %v, %d, want ErrSpan", l, s, x, e)
			}
		}
	}
}

func TestTooManyRows(t *testing.T) {
	full := fullList()
	nearlyFull := full[:api.MaxRows-1]
	for _, c := range []struct {
		name     string
		l        []api.Row
		from, to int
		v        api.Value
		rows     int // 0 for too many
	}{
		{"behind the last row", nearlyFull, 1000, 1001, num(-1), 64},
		{"behind the last row of 64", full, 1000, 1001, num(-1), 0},
		{"in a gap", full, 2, 3, num(-1), 0},
		{"in a gap, joined with the row before it", full, 2, 3, num(0), 64},
		{"in a gap, joined with the row behind it", full, 2, 3, num(1), 64},
		{"over a row", full, 3, 5, num(-1), 64},
		{"over the end of a row", full, 4, 5, num(-1), 0},
		{"over the begin of a row", full, 3, 4, num(-1), 0},
		{"over the end of a row and a gap", full, 4, 6, num(-1), 0},
		{"over the end of a row, a gap and a row", full, 4, 8, num(-1), 64},
		{"over all", full, 0, 1000, num(-1), 1},
		{"where it is the value", full, 3, 4, num(1), 64},
	} {
		x, e := span.Put(c.l, c.from, c.to, c.v)
		if c.rows == 0 && (len(x) != 0 || e != api.ErrBig) || c.rows > 0 && (len(x) != c.rows || e != api.OK) {
			t.Errorf("Put %s: %d rows, error %d, want %d rows", c.name, len(x), e, c.rows)
		}
	}
	wide := slices.Clone(full)
	wide[63].To += 2
	inLast := wide[63].From + 1
	if x, e := span.Cut(wide, inLast, inLast+1); len(x) != 0 || e != api.ErrBig {
		t.Errorf("Cut inside the last row of 64: %d rows, error %d", len(x), e)
	}
	if x, e := span.Put(wide[1:], inLast, inLast+1, num(-1)); len(x) != 0 || e != api.ErrBig {
		t.Errorf("Put inside the last row of 63: %d rows, error %d", len(x), e)
	}
	if x, e := span.Cut(wide[1:], inLast, inLast+1); len(x) != 64 || e != api.OK {
		t.Errorf("Cut inside the last row of 63: %d rows, error %d", len(x), e)
	}
}

func TestClip(t *testing.T) {
	l := []api.Row{row(0, 4, num(1)), row(6, 8, text("b")), row(8, 10, num(3)), row(api.MaxTime-1, api.MaxTime, num(4))}
	for _, c := range []struct {
		from, to int
		want     []api.Row
	}{
		{3, 9, []api.Row{row(3, 4, num(1)), row(6, 8, text("b")), row(8, 9, num(3))}},
		{1, 2, []api.Row{row(1, 2, num(1))}},
		{4, 6, nil},
		{4, 7, []api.Row{row(6, 7, text("b"))}},
		{0, api.MaxTime, l},
		{-7, api.MaxTime + 7, l},
		{math.MinInt, math.MaxInt, l},
		{math.MinInt, 1, []api.Row{row(0, 1, num(1))}},
		{9, math.MaxInt, []api.Row{row(9, 10, num(3)), l[3]}},
		{math.MinInt, 0, nil},
		{-2, -1, nil},
		{api.MaxTime, math.MaxInt, nil},
		{5, 5, nil},
		{2, 2, nil},
		{3, 2, nil},
		{9, 3, nil},
		{math.MaxInt, math.MinInt, nil},
	} {
		if x := span.Clip(l, c.from, c.to); !slices.Equal(x, c.want) {
			t.Errorf("Clip(%d, %d) = %v, want %v", c.from, c.to, x, c.want)
		}
	}
	for _, l := range invalidLists() {
		if x := span.Clip(l, math.MinInt, math.MaxInt); len(x) != 0 {
			t.Errorf("Clip(%v) = %v for rows that are not valid", l, x)
		}
	}
}

func TestDiffRefuses(t *testing.T) {
	ok := []api.Row{row(0, 1, num(9))}
	for _, l := range invalidLists() {
		if d := span.Diff(l, ok); len(d) != 0 {
			t.Errorf("Diff(%v, ok) = %v", l, d)
		}
		if d := span.Diff(ok, l); len(d) != 0 {
			t.Errorf("Diff(ok, %v) = %v", l, d)
		}
		if d := span.Diff(l, l); len(d) != 0 {
			t.Errorf("Diff(%v, same) = %v", l, d)
		}
	}
}

// TestDiffOfFullLists has more pieces than a list has rows.
func TestDiffOfFullLists(t *testing.T) {
	a := fullList()
	var b []api.Row
	for i := range api.MaxRows {
		b = append(b, row(3*i+1, 3*i+3, num(-1-i)))
	}
	d := span.Diff(a, b)
	if len(d) != 3*api.MaxRows {
		t.Fatalf("Diff has %d pieces", len(d))
	}
	if x, e := span.Apply(a, d); !slices.Equal(x, b) || e != api.OK {
		t.Errorf("Apply = %v, %d", x, e)
	}
	if x, e := span.Apply(b, exchanged(d)); !slices.Equal(x, a) || e != api.OK {
		t.Errorf("Apply = %v, %d", x, e)
	}
}

func exchanged(d []api.Piece) []api.Piece {
	d = slices.Clone(d)
	for i := range d {
		d[i].Had, d[i].Now = d[i].Now, d[i].Had
	}
	return d
}
