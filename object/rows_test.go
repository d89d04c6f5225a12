package object_test

import (
	"math"
	"math/rand"
	"slices"
	"strings"
	"testing"

	"fasti/api"
	"fasti/cell"
	"fasti/object"
)

// rowCell is not valid if one of its cells is not.
func rowCell(from, to, v api.Cell) api.Cell {
	return api.Cell{Kind: api.CList, L: []api.Cell{from, to, v}}
}

func cellOfRows(l []api.Row) api.Cell {
	c := api.Cell{Kind: api.CList}
	for _, r := range l {
		v := cell.Num(r.V.N)
		if r.V.Kind == api.VText {
			v = cell.Text(r.V.S)
		}
		c.L = append(c.L, rowCell(cell.Num(r.From), cell.Num(r.To), v))
	}
	return c
}

func sameCell(a, b api.Cell) bool {
	return a.Kind == b.Kind && a.N == b.N && a.S == b.S && slices.EqualFunc(a.L, b.L, sameCell)
}

func TestPutRowsAndTakeRows(t *testing.T) {
	lists := [][]api.Row{nil, {}, {{From: 1, To: 2, V: num(-5)}}, rowsOf(64)}
	for _, o := range testObjects() {
		lists = append(lists, o.Rows)
	}
	for _, l := range lists {
		c, e := object.PutRows(l)
		if !sameCell(c, cellOfRows(l)) || e != api.OK {
			t.Fatalf("PutRows(%v) = %v, %d", l, c, e)
		}
		if s, _ := cell.Put(c); s != modelRows(l) {
			t.Fatalf("the cell of %v has the encoding %x", l, s)
		}
		if again, e := object.TakeRows(c); !slices.Equal(again, l) || e != api.OK {
			t.Fatalf("TakeRows(%v) = %v, %d, want %v", c, again, e, l)
		}
	}
}

func TestPutRowsAndTakeRowsRefuse(t *testing.T) {
	for what, o := range invalidObjects() {
		if o.Kind != api.ONode || len(o.Rows) == 0 {
			continue
		}
		if c, e := object.PutRows(o.Rows); !sameCell(c, api.Cell{}) || e != api.ErrArg {
			t.Errorf("%s: PutRows = %v, %d, want ErrArg", what, c, e)
		}
		c := cellOfRows(o.Rows)
		if again := guessRows(c); !slices.Equal(again, o.Rows) {
			continue // a cell leaves out what the kind of a value does not use
		}
		if l, e := object.TakeRows(c); len(l) != 0 || e != api.ErrFormat {
			t.Errorf("%s: TakeRows = %v, %d, want ErrFormat", what, l, e)
		}
	}
}

// invalidRowCells are cells of rows but for one thing; most are not valid cells.
func invalidRowCells() map[string]api.Cell {
	one, two, five := cell.Num(1), cell.Num(2), cell.Num(5)
	listOf := func(l ...api.Cell) api.Cell { return api.Cell{Kind: api.CList, L: l} }
	good := rowCell(one, two, five)
	deep := five
	for range 1000 {
		deep = listOf(deep)
	}
	itself := []api.Cell{one, two, five}
	for i := range itself {
		itself[i] = listOf(itself...)
		itself[i].L = itself
	}
	return map[string]api.Cell{
		"zero":                      {},
		"no kind with rows":         {L: []api.Cell{good}},
		"integer":                   five,
		"integer with rows":         {Kind: api.CNum, L: []api.Cell{good}},
		"string":                    cell.Text(""),
		"string with rows":          {Kind: api.CText, L: []api.Cell{good}},
		"kind 4":                    {Kind: 4, L: []api.Cell{good}},
		"list with an integer":      {Kind: api.CList, L: []api.Cell{good}, N: 1},
		"list with a string":        {Kind: api.CList, L: []api.Cell{good}, S: "a"},
		"empty list and an integer": {Kind: api.CList, N: -1},
		"row that is an integer":    listOf(one),
		"row that is a string":      listOf(cell.Text("abc")),
		"row that is zero":          listOf(good, api.Cell{}),
		"row with an integer":       listOf(api.Cell{Kind: api.CList, N: 1, L: good.L}),
		"row with a string":         listOf(api.Cell{Kind: api.CList, S: "a", L: good.L}),
		"row of no kind":            listOf(api.Cell{L: good.L}),
		"empty row":                 listOf(listOf()),
		"row of two":                listOf(listOf(one, two)),
		"row of four":               listOf(listOf(one, two, five, five)),
		"row itself":                good,
		"row too deep":              listOf(listOf(good)),
		"from that is a string":     listOf(rowCell(cell.Text(""), two, five)),
		"from that is a list":       listOf(rowCell(listOf(), two, five)),
		"from that is zero":         listOf(rowCell(api.Cell{}, two, five)),
		"from with a string":        listOf(rowCell(api.Cell{Kind: api.CNum, N: 1, S: "a"}, two, five)),
		"from with a list":          listOf(rowCell(api.Cell{Kind: api.CNum, N: 1, L: good.L}, two, five)),
		"from below all times":      listOf(rowCell(cell.Num(-1), two, five)),
		"to that is a string":       listOf(rowCell(one, cell.Text("2"), five)),
		"to that is a list":         listOf(rowCell(one, listOf(two), five)),
		"to with a string":          listOf(rowCell(one, api.Cell{Kind: api.CNum, N: 2, S: "a"}, five)),
		"to after all times":        listOf(rowCell(one, cell.Num(api.MaxTime+1), five)),
		"to far after all times":    listOf(rowCell(one, cell.Num(math.MaxInt), five)),
		"to that is from":           listOf(rowCell(one, one, five)),
		"value that is a list":      listOf(rowCell(one, two, listOf())),
		"value in a list":           listOf(rowCell(one, two, listOf(five))),
		"value that is zero":        listOf(rowCell(one, two, api.Cell{})),
		"integer and a string":      listOf(rowCell(one, two, api.Cell{Kind: api.CNum, N: 5, S: "a"})),
		"integer and a list":        listOf(rowCell(one, two, api.Cell{Kind: api.CNum, N: 5, L: good.L})),
		"string and an integer":     listOf(rowCell(one, two, api.Cell{Kind: api.CText, S: "a", N: 5})),
		"string and a list":         listOf(rowCell(one, two, api.Cell{Kind: api.CText, S: "a", L: good.L})),
		"string of 41 bytes":        listOf(rowCell(one, two, cell.Text(strings.Repeat("a", 41)))),
		"string that is not UTF-8":  listOf(rowCell(one, two, cell.Text("\xff"))),
		"rows that overlap":         listOf(good, good),
		"rows that continue":        listOf(good, rowCell(two, five, five)),
		"65 rows":                   cellOfRows(rowsOf(65)),
		"wrong at the end":          {Kind: api.CList, L: append(cellOfRows(rowsOf(63)).L, one)},
		"very deep":                 deep,
		"value that is very deep":   listOf(rowCell(one, two, deep)),
		"list in itself":            listOf(itself...),
	}
}

func TestTakeRowsOfOtherCells(t *testing.T) {
	for what, c := range invalidRowCells() {
		if l, e := object.TakeRows(c); len(l) != 0 || e != api.ErrFormat {
			t.Errorf("%s: TakeRows = %v, %d, want ErrFormat", what, l, e)
		}
	}
}

// TestTakeRowsAgainstModel has the cells that differ in one place from those of rows.
func TestTakeRowsAgainstModel(t *testing.T) {
	for _, o := range tellingObjects() {
		for _, c := range cellsLike(cellOfRows(o.Rows)) {
			encoding, _ := cell.Put(c)
			want, wantError := guessRows(c), api.OK
			if !modelIsValid(api.Object{Kind: api.ONode, Rows: want}) || modelRows(want) != encoding {
				want, wantError = nil, api.ErrFormat
			}
			l, e := object.TakeRows(c)
			if !slices.Equal(l, want) || e != wantError {
				t.Fatalf("TakeRows(%v) = %v, %d, want %v, %d", c, l, e, want, wantError)
			}
		}
	}
}

// TestRowsShareNoMemory changes the results, and the spare capacity of arguments.
func TestRowsShareNoMemory(t *testing.T) {
	random := rand.New(rand.NewSource(2))
	for range 200 {
		rows := randomRows(random)
		want := slices.Clone(rows)
		c, _ := object.PutRows(rows)
		d, _ := object.PutRows(rows)
		for i := range c.L {
			clear(c.L[i].L[:cap(c.L[i].L)])
		}
		clear(c.L[:cap(c.L)])
		if !sameCell(d, cellOfRows(want)) || !slices.Equal(rows, want) {
			t.Fatalf("a change of one cell changed another to %v, and the rows %v to %v", d, want, rows)
		}
		l, _ := object.TakeRows(d)
		again, _ := object.TakeRows(d)
		clear(l[:cap(l)])
		if !slices.Equal(again, want) || !sameCell(d, cellOfRows(want)) {
			t.Fatalf("a change of the rows changed others to %v, and the cell to %v", again, d)
		}
	}
}
