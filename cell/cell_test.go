package cell_test

import (
	"math"
	"math/rand"
	"reflect"
	"strings"
	"testing"

	"fasti/api"
	"fasti/cell"
)

// nested returns the cell inside of that many lists, each of one element.
func nested(c api.Cell, lists int) api.Cell {
	for range lists {
		c = api.Cell{Kind: api.CList, L: []api.Cell{c}}
	}
	return c
}

func numbers(count int) []api.Cell {
	l := make([]api.Cell, count)
	for i := range l {
		l[i] = api.Cell{Kind: api.CNum, N: i}
	}
	return l
}

// inItself returns a list whose cells, at the end of some lists, are the list itself.
func inItself(cells, lists int) []api.Cell {
	l := numbers(cells)
	for i := range l {
		l[i] = nested(api.Cell{Kind: api.CList, L: l}, lists)
	}
	return l
}

func same(a, b api.Cell) bool {
	if a.Kind != b.Kind || a.N != b.N || a.S != b.S || len(a.L) != len(b.L) {
		return false
	}
	for i := range a.L {
		if !same(a.L[i], b.L[i]) {
			return false
		}
	}
	return true
}

func validCells() []api.Cell {
	return []api.Cell{
		cell.Num(0), cell.Num(7), cell.Num(-7), cell.Num(math.MaxInt), cell.Num(math.MinInt),
		cell.Text(""), cell.Text("a"), cell.Text("\xff\x00"), cell.Text(strings.Repeat("x", 65535)),
		cell.List(), cell.List(cell.List()), cell.List(cell.Num(-1), cell.Text("b"), cell.List(cell.Num(2), cell.List())),
		{Kind: api.CNum, L: []api.Cell{}}, {Kind: api.CText, L: []api.Cell{}}, {Kind: api.CList, L: []api.Cell{}},
		{Kind: api.CList, L: numbers(4095)},
		nested(cell.Num(1), 15), nested(cell.Text(strings.Repeat("x", 65535)), 15), nested(cell.List(), 15),
		cell.List(nested(cell.Num(1), 14), cell.Num(2), nested(cell.List(), 14)),
		nested(api.Cell{Kind: api.CList, L: numbers(4095)}, 14),
	}
}

// invalidCells has each reason once, and at the edges.
func invalidCells() map[string]api.Cell {
	return map[string]api.Cell{
		"zero":                         {},
		"no kind with an integer":      {N: 1},
		"no kind with a string":        {S: "a"},
		"no kind with a list":          {L: numbers(1)},
		"kind 4":                       {Kind: 4},
		"kind -1":                      {Kind: -1},
		"kind of the greatest integer": {Kind: math.MaxInt},
		"integer with a string":        {Kind: api.CNum, N: 1, S: "a"},
		"integer with a list":          {Kind: api.CNum, N: 1, L: numbers(1)},
		"string with an integer":       {Kind: api.CText, S: "a", N: 1},
		"string with a negative":       {Kind: api.CText, N: -1},
		"string with a list":           {Kind: api.CText, S: "a", L: numbers(1)},
		"list with an integer":         {Kind: api.CList, L: numbers(1), N: 1},
		"list with a string":           {Kind: api.CList, L: numbers(1), S: "\x00"},
		"empty list with a string":     {Kind: api.CList, S: "a"},
		"string of 65536 bytes":        {Kind: api.CText, S: strings.Repeat("x", 65536)},
		"list of 4096 cells":           {Kind: api.CList, L: numbers(4096)},
		"integer of depth 17":          nested(cell.Num(1), 16),
		"string of depth 17":           nested(cell.Text(""), 16),
		"empty list of depth 17":       nested(cell.List(), 16),
		"depth 1000":                   nested(cell.Num(1), 999),
		"deep at the end":              {Kind: api.CList, L: append(numbers(9), nested(cell.Num(1), 15))},
		"zero inside":                  cell.List(cell.Num(1), api.Cell{}, cell.Num(2)),
		"zero at depth 16":             nested(api.Cell{}, 15),
		"zero at the end":              {Kind: api.CList, L: append(numbers(4094), api.Cell{})},
		"list with a string inside":    cell.List(cell.List(api.Cell{Kind: api.CList, S: "a"})),
		"list in itself":               {Kind: api.CList, L: inItself(1, 0)},
		"wide list in itself":          {Kind: api.CList, L: inItself(4095, 0)},
		"list in lists in itself":      {Kind: api.CList, L: inItself(5, 20)},
	}
}

func TestNumTextList(t *testing.T) {
	for _, n := range []int{0, 1, -1, 300, math.MaxInt, math.MinInt} {
		if c := cell.Num(n); !reflect.DeepEqual(c, api.Cell{Kind: api.CNum, N: n}) {
			t.Errorf("Num(%d) = %v", n, c)
		}
	}
	for _, s := range []string{"", "ab", "\xff", "\x00", strings.Repeat("x", 65535), strings.Repeat("x", 65536)} {
		if c := cell.Text(s); !reflect.DeepEqual(c, api.Cell{Kind: api.CText, S: s}) {
			t.Errorf("Text of %d bytes = %v", len(s), c)
		}
	}
	for _, l := range [][]api.Cell{nil, {}, numbers(1), numbers(4095), numbers(4096), validCells(), {{}, {Kind: 9, N: 8, S: "x"}}} {
		if c := cell.List(l...); !same(c, api.Cell{Kind: api.CList, L: l}) {
			t.Errorf("List of %d cells = %v", len(l), c)
		}
	}
}

func TestListOfInvalidCells(t *testing.T) {
	for what, c := range invalidCells() {
		l := cell.List(cell.Num(1), c)
		if l.Kind != api.CList || l.N != 0 || l.S != "" || len(l.L) != 2 {
			t.Errorf("%s: the list has %d cells", what, len(l.L))
			continue
		}
		if strings.Contains(what, "itself") {
			continue
		}
		if !same(l.L[0], cell.Num(1)) || !same(l.L[1], c) {
			t.Errorf("%s: the list has other cells", what)
		}
	}
}

func TestListSharesNoMemory(t *testing.T) {
	inner := []api.Cell{cell.Num(1), cell.Num(2), cell.Num(3)}
	middle := []api.Cell{{Kind: api.CList, L: inner[:2]}, {Kind: api.CText, S: "a", L: inner[:1]}, {Kind: api.CList, L: inner[:0]}}
	outer := []api.Cell{{Kind: api.CList, L: middle}, {Kind: api.CList, L: middle}, {Kind: api.CList, L: inner}, cell.Num(4)}
	want := cell.List(cell.List(cell.List(cell.Num(1), cell.Num(2)), cell.Text("a"), cell.List()), cell.Num(0))
	want.L[0].L[1].L = []api.Cell{cell.Num(1)}
	want.L[1] = want.L[0]
	c := cell.List(outer[:2]...)
	if !same(c, want) {
		t.Fatalf("List = %v, want %v", c, want)
	}
	fill(c.L, cell.Text("x"))
	if !same(outer[2], cell.List(cell.Num(1), cell.Num(2), cell.Num(3))) || !same(outer[3], cell.Num(4)) {
		t.Errorf("a change of the list changed its cells to %v", outer)
	}
	if again := cell.List(outer[:2]...); !same(again, want) {
		t.Errorf("after a change of the first list, the second is %v", again)
	}
	c = cell.List(outer[:2]...)
	fill(c.L[0].L, cell.Text("x"))
	if !same(c.L[1], want.L[1]) {
		t.Errorf("a change of one element changed another to %v", c.L[1])
	}
	c = cell.List(outer[:2]...)
	fill(outer, cell.Text("x"))
	if !same(c, want) {
		t.Errorf("a change of its cells changed the list to %v", c)
	}
}

// fill sets all cells of a list to c, those of inner lists and of spare capacity included.
func fill(l []api.Cell, c api.Cell) {
	l = l[:cap(l)]
	for i := range l {
		fill(l[i].L, c)
		l[i] = c
	}
}

func TestListOfDeepCells(t *testing.T) {
	const lists = 1000000
	c := cell.List(nested(cell.Num(5), lists))
	for range lists + 1 {
		if c.Kind != api.CList || len(c.L) != 1 {
			t.Fatalf("a list is %v", c)
		}
		c = c.L[0]
	}
	if !same(c, cell.Num(5)) {
		t.Errorf("at the end is %v", c)
	}
}

// TestListOfEndlessCells has cells that only a list that is never wholly read can have.
func TestListOfEndlessCells(t *testing.T) {
	meshed := make([][]api.Cell, 30)
	for i := range meshed {
		meshed[i] = numbers(len(meshed))
	}
	for _, l := range meshed {
		for i := range l {
			l[i] = api.Cell{Kind: api.CList, L: meshed[i]}
		}
	}
	behind := append(numbers(1000), nested(api.Cell{Kind: api.CList, L: inItself(3, 50)}, 100))
	for what, l := range map[string][]api.Cell{
		"at once": inItself(1, 0), "wide": inItself(4095, 0), "around": inItself(2, 77), "meshed": meshed[0], "behind": behind,
	} {
		if c := cell.List(l...); c.Kind != api.CList || len(c.L) != len(l) || cell.Check(c) != api.ErrArg {
			t.Errorf("%s: List has kind %d and %d cells, and Check is %d", what, c.Kind, len(c.L), cell.Check(c))
		}
	}
}

func TestCheck(t *testing.T) {
	for i, c := range validCells() {
		if e := cell.Check(c); e != api.OK {
			t.Errorf("Check of valid cell %d = %d", i, e)
		}
	}
	for what, c := range invalidCells() {
		if e := cell.Check(c); e != api.ErrArg {
			t.Errorf("%s: Check = %d, want %d", what, e, api.ErrArg)
		}
		if e := cell.Check(cell.List(cell.Num(1), c)); e != api.ErrArg {
			t.Errorf("%s in a list: Check = %d, want %d", what, e, api.ErrArg)
		}
	}
}

func TestPutAndSizeOfInvalidCells(t *testing.T) {
	for what, c := range invalidCells() {
		if s, e := cell.Put(c); s != "" || e != api.ErrArg {
			t.Errorf("%s: Put = %q, %d, want %d", what, s, e, api.ErrArg)
		}
		if n := cell.Size(c); n != 0 {
			t.Errorf("%s: Size = %d", what, n)
		}
	}
}

func TestPut(t *testing.T) {
	long := strings.Repeat("x", 65535)
	for _, c := range []struct {
		c    api.Cell
		want string
	}{
		{cell.Num(0), "\x10"},
		{cell.Num(-1), "\x20"},
		{cell.Num(300), "\x12\x01\x2c"},
		{cell.Text("ab"), "\x31\x02ab"},
		{cell.List(cell.Num(1), cell.Text("")), "\x41\x02\x11\x01\x30"},
		{cell.Num(127), "\x11\x7f"},
		{cell.Num(128), "\x11\x80"},
		{cell.Num(65535), "\x12\xff\xff"},
		{cell.Num(65536), "\x13\x01\x00\x00"},
		{cell.Num(1 << 56), "\x18\x01\x00\x00\x00\x00\x00\x00\x00"},
		{cell.Num(1<<56 - 1), "\x17\xff\xff\xff\xff\xff\xff\xff"},
		{cell.Num(math.MaxInt), "\x18\x7f\xff\xff\xff\xff\xff\xff\xff"},
		{cell.Num(-2), "\x21\x01"},
		{cell.Num(-128), "\x21\x7f"},
		{cell.Num(-256), "\x21\xff"},
		{cell.Num(-257), "\x22\x01\x00"},
		{cell.Num(-1 << 56), "\x27\xff\xff\xff\xff\xff\xff\xff"},
		{cell.Num(math.MinInt), "\x28\x7f\xff\xff\xff\xff\xff\xff\xff"},
		{cell.Text(""), "\x30"},
		{cell.Text("\x00"), "\x31\x01\x00"},
		{cell.Text("\xff\xfe\xc3"), "\x31\x03\xff\xfe\xc3"},
		{cell.Text(long[:255]), "\x31\xff" + long[:255]},
		{cell.Text(long[:256]), "\x32\x01\x00" + long[:256]},
		{cell.Text(long), "\x32\xff\xff" + long},
		{cell.List(), "\x40"},
		{cell.List(cell.List(), cell.List(cell.List())), "\x41\x02\x40\x41\x01\x40"},
		{api.Cell{Kind: api.CList, L: make255()}, "\x41\xff" + strings.Repeat("\x20", 255)},
		{cell.List(append(make255(), cell.List())...), "\x42\x01\x00" + strings.Repeat("\x20", 255) + "\x40"},
		{nested(cell.Text("a"), 15), strings.Repeat("\x41\x01", 15) + "\x31\x01a"},
	} {
		s, e := cell.Put(c.c)
		if s != c.want || e != api.OK {
			t.Errorf("Put = %x, %d, want %x", s, e, c.want)
		}
		if n := cell.Size(c.c); n != len(c.want) {
			t.Errorf("Size = %d, want %d", n, len(c.want))
		}
	}
}

func make255() []api.Cell {
	l := numbers(255)
	for i := range l {
		l[i].N = -1
	}
	return l
}

func TestPutOfAsManyCellsAsMayBe(t *testing.T) {
	c := api.Cell{Kind: api.CList, L: numbers(4095)}
	for i := range c.L {
		c.L[i] = cell.List(cell.Num(0))
	}
	want := "\x42\x0f\xff" + strings.Repeat("\x41\x01\x10", 4095)
	if s, e := cell.Put(c); s != want || e != api.OK || cell.Size(c) != len(want) {
		t.Errorf("Put has %d bytes, %d; Size is %d, want %d", len(s), e, cell.Size(c), len(want))
	}
}

// TestPutAgainstModel has the integers around each power of two, and random cells.
func TestPutAgainstModel(t *testing.T) {
	var l []api.Cell
	for bit := range 63 {
		for _, more := range []int{-2, -1, 0, 1, 2} {
			l = append(l, cell.Num(1<<bit+more), cell.Num(-1<<bit+more))
		}
	}
	random := rand.New(rand.NewSource(1))
	for range 3000 {
		l = append(l, randomCell(random, 16))
	}
	for _, c := range append(l, validCells()...) {
		want := modelEncoding(c)
		if s, e := cell.Put(c); s != want || e != api.OK {
			t.Errorf("Put = %x, %d, want %x", s, e, want)
		}
		if n := cell.Size(c); n != len(want) {
			t.Errorf("Size = %d, want %d", n, len(want))
		}
	}
}

func TestCallsChangeNoArgument(t *testing.T) {
	c := cell.List(cell.Num(1), cell.List(cell.Text("a"), cell.Num(2)), cell.Num(3), cell.Num(4))
	part := api.Cell{Kind: api.CList, L: c.L[:2]}
	cell.Check(part)
	cell.Put(part)
	cell.Size(part)
	cell.List(part.L...)
	cell.List(part)
	if want := cell.List(cell.Num(1), cell.List(cell.Text("a"), cell.Num(2)), cell.Num(3), cell.Num(4)); !same(c, want) {
		t.Errorf("the cell is now %v", c)
	}
}
