package shelf_test

import (
	"slices"
	"strings"
	"testing"

	"fasti/api"
	"fasti/cell"
	"fasti/drum"
	"fasti/object"
	"fasti/shelf"
	"fasti/tape"
)

func node(label string) api.Object {
	return api.Object{Kind: api.ONode, Label: label}
}

func commit(stamp int) api.Object {
	return api.Object{Kind: api.OCommit, Stamp: stamp, Root: strings.Repeat("r", 32)}
}

// someObjects are all different, and have each part that an object may have.
func someObjects() []api.Object {
	id := func(s string) string { return strings.Repeat(s, 32) }
	rows := []api.Row{{From: 0, To: 2, V: api.Value{Kind: api.VNum, N: -5}}, {From: 2, To: 300, V: api.Value{Kind: api.VText, S: "v"}}}
	full := api.Object{Kind: api.ONode, Label: strings.Repeat("x", 24)}
	for i := range 64 {
		full.Rows = append(full.Rows, api.Row{From: 1000000000000 + 2*i, To: 1000000000001 + 2*i, V: api.Value{Kind: api.VText, S: strings.Repeat("z", 40)}})
	}
	for i := range 256 {
		full.Kids = append(full.Kids, api.Kid{First: byte(i), Id: id("k")})
	}
	return []api.Object{
		node(""), node("a"), node("b"), node("\xff\x00"),
		{Kind: api.ONode, Label: "ab", Rows: rows, Kids: []api.Kid{{First: 'c', Id: id("i")}, {First: 'd', Id: id("j")}}},
		commit(0), commit(1), commit(api.MaxTime),
		{Kind: api.OCommit, Parents: []string{id("p"), id("q")}, Stamp: 7, Note: "n", Root: id("r")},
		{Kind: api.OCommit, Parents: []string{id("q"), id("p")}, Stamp: 7, Note: "n", Root: id("r")},
		full,
	}
}

func wrongObjects() map[string]api.Object {
	one := strings.Repeat("1", 32)
	return map[string]api.Object{
		"zero":                      {},
		"no kind":                   {Label: "a"},
		"kind 3":                    {Kind: 3},
		"node with a long label":    node(strings.Repeat("a", 25)),
		"node with a stamp":         {Kind: api.ONode, Stamp: 1},
		"node with an empty row":    {Kind: api.ONode, Rows: []api.Row{{From: 3, To: 3, V: api.Value{Kind: api.VNum}}}},
		"node with a kid twice":     {Kind: api.ONode, Kids: []api.Kid{{First: 'a', Id: one}, {First: 'a', Id: one}}},
		"node with a short id":      {Kind: api.ONode, Kids: []api.Kid{{First: 'a', Id: one[1:]}}},
		"commit without a root":     {Kind: api.OCommit},
		"commit with a label":       {Kind: api.OCommit, Label: "a", Root: one},
		"commit at a negative time": {Kind: api.OCommit, Stamp: -1, Root: one},
		"commit with a parent twice": {
			Kind: api.OCommit, Parents: []string{one, one}, Root: one,
		},
	}
}

// nested returns the cell inside of that many lists, each of one element.
func nested(c api.Cell, lists int) api.Cell {
	for range lists {
		c = api.Cell{Kind: api.CList, L: []api.Cell{c}}
	}
	return c
}

func someCells() []api.Cell {
	return []api.Cell{
		cell.Num(0), cell.Num(-7), cell.Text(""), cell.Text("\xff\x00"), cell.List(),
		cell.List(cell.Num(1), cell.Text("b"), cell.List(cell.Num(2), cell.List())),
		nested(cell.Num(1), 13), nested(cell.Text("t"), 13), nested(cell.List(), 13),
		cell.List(cell.Num(3), nested(cell.List(), 12), cell.List(), nested(cell.Num(4), 12)),
	}
}

// wrongCells are no batch's, each for one reason.
func wrongCells() map[string]api.Cell {
	inItself := make([]api.Cell, 2)
	inItself[1] = api.Cell{Kind: api.CList, L: inItself}
	inItself[0] = nested(inItself[1], 3)
	return map[string]api.Cell{
		"zero":                        {},
		"no kind":                     {N: 1},
		"kind 4":                      {Kind: 4},
		"integer with a string":       {Kind: api.CNum, S: "a"},
		"string with an integer":      {Kind: api.CText, N: 1},
		"list with an integer":        {Kind: api.CList, N: 1},
		"integer with a list":         {Kind: api.CNum, L: []api.Cell{cell.Num(1)}},
		"string of 65536 bytes":       cell.Text(strings.Repeat("x", 65536)),
		"list of 4096 cells":          {Kind: api.CList, L: slices.Repeat([]api.Cell{cell.Num(1)}, 4096)},
		"zero inside":                 cell.List(cell.Num(1), api.Cell{}),
		"integer of depth 15":         nested(cell.Num(1), 14),
		"string of depth 15":          nested(cell.Text(""), 14),
		"empty list of depth 15":      nested(cell.List(), 14),
		"depth 16":                    nested(cell.Num(1), 15),
		"depth 17":                    nested(cell.Num(1), 16),
		"depth 1000":                  nested(cell.Num(1), 999),
		"depth 15 at the end":         cell.List(cell.Num(1), nested(cell.Num(1), 13)),
		"depth 15 at the beginning":   cell.List(nested(cell.Num(1), 13), cell.Num(1)),
		"depth 15 between the others": cell.List(nested(cell.Num(1), 12), nested(cell.Num(1), 13), nested(cell.Num(1), 12)),
		"list in itself":              {Kind: api.CList, L: inItself},
	}
}

// modelMark returns the first bytes of an encoding: a number for the kind, and the base.
func modelMark(number, base int) string {
	digits := ""
	for ; base > 0; base /= 256 {
		digits = string([]byte{byte(base % 256)}) + digits
	}
	return string([]byte{byte(number + len(digits))}) + digits
}

func modelCell(c api.Cell) string {
	switch c.Kind {
	case api.CNum:
		if c.N < 0 {
			return modelMark(0x20, -(c.N + 1))
		}
		return modelMark(0x10, c.N)
	case api.CText:
		return modelMark(0x30, len(c.S)) + c.S
	}
	var b strings.Builder
	b.WriteString(modelMark(0x40, len(c.L)))
	for _, inner := range c.L {
		b.WriteString(modelCell(inner))
	}
	return b.String()
}

// modelRecord returns the record of a batch: a list of its cell and a list of the encodings.
func modelRecord(c api.Cell, objects ...api.Object) string {
	var b strings.Builder
	b.WriteString(modelMark(0x40, 2) + modelCell(c) + modelMark(0x40, len(objects)))
	for _, o := range objects {
		s := encoding(o)
		b.WriteString(modelMark(0x30, len(s)) + s)
	}
	return b.String()
}

// encoding returns an empty string for an object that is not valid.
func encoding(o api.Object) string {
	s, _ := object.Put(o)
	return s
}

func idOf(o api.Object) string {
	id, _ := object.Id(o)
	return id
}

func newDrum(t *testing.T, sectors int) *drum.Drum {
	t.Helper()
	d, e := drum.New(sectors)
	expectErrno(t, "drum.New", e, api.OK)
	return d
}

// written returns a drum with these records, which are durable.
func written(t *testing.T, records ...string) *drum.Drum {
	t.Helper()
	d := newDrum(t, 300)
	log, _, e := tape.Open(d)
	expectErrno(t, "tape.Open", e, api.OK)
	for _, r := range records {
		expectErrno(t, "Append", log.Append(r), api.OK)
	}
	expectErrno(t, "Settle", log.Settle(), api.OK)
	return d
}

func expectErrno(t *testing.T, what string, e, want api.Errno) {
	t.Helper()
	if e != want {
		t.Fatalf("%s: error %d, want %d", what, e, want)
	}
}

// open opens a drum, and has these cells there, and no fresh objects.
func open(t *testing.T, d *drum.Drum, want ...api.Cell) *shelf.Shelf {
	t.Helper()
	s, cells, e := shelf.Open(d)
	expectErrno(t, "Open", e, api.OK)
	expectCells(t, cells, want)
	if s.Fresh() != 0 || s.Batches() != len(want) {
		t.Fatalf("%d objects are fresh, there are %d batches, want %d", s.Fresh(), s.Batches(), len(want))
	}
	return s
}

func expectCells(t *testing.T, cells, want []api.Cell) {
	t.Helper()
	if len(cells) != len(want) {
		t.Fatalf("there are %d cells, want %d", len(cells), len(want))
	}
	for i := range cells {
		if cell.Check(cells[i]) != api.OK || modelCell(cells[i]) != modelCell(want[i]) {
			t.Fatalf("cell %d is %v, want %v", i, cells[i], want[i])
		}
	}
}

func put(t *testing.T, s *shelf.Shelf, objects ...api.Object) {
	t.Helper()
	for _, o := range objects {
		id, e := s.Put(o)
		if id != idOf(o) || e != api.OK {
			t.Fatalf("Put = %x, %d, want %x", id, e, idOf(o))
		}
	}
}

func store(t *testing.T, s *shelf.Shelf, c api.Cell, objects ...api.Object) {
	t.Helper()
	put(t, s, objects...)
	expectErrno(t, "Commit", s.Commit(c), api.OK)
}

func expectObject(t *testing.T, s *shelf.Shelf, want api.Object) {
	t.Helper()
	o, e := s.Get(idOf(want))
	if e != api.OK || encoding(o) != encoding(want) {
		t.Fatalf("Get = %v, %d, want %v", o, e, want)
	}
}

func expectNoObject(t *testing.T, s *shelf.Shelf, id string) {
	t.Helper()
	if o, e := s.Get(id); e != api.ErrNone || !isZero(o) {
		t.Fatalf("Get of %x = %v, %d, want %d", id, o, e, api.ErrNone)
	}
}

func isZero(o api.Object) bool {
	return o.Kind == 0 && o.Label == "" && len(o.Rows) == 0 && len(o.Kids) == 0 &&
		len(o.Parents) == 0 && o.Stamp == 0 && o.Note == "" && o.Root == ""
}

// expectObjects has exactly these objects there, of those and of some others,
// and that many of them fresh.
func expectObjects(t *testing.T, s *shelf.Shelf, fresh int, want ...api.Object) {
	t.Helper()
	if s.Len() != len(want) || s.Fresh() != fresh {
		t.Fatalf("there are %d objects, %d of them fresh, want %d and %d", s.Len(), s.Fresh(), len(want), fresh)
	}
	there := map[string]bool{}
	for _, o := range want {
		there[idOf(o)] = true
		expectObject(t, s, o)
	}
	for _, o := range someObjects() {
		if !there[idOf(o)] {
			expectNoObject(t, s, idOf(o))
		}
	}
}

// expectRecords has a drum visibly contain exactly these records.
func expectRecords(t *testing.T, d *drum.Drum, want ...string) {
	t.Helper()
	records, _, _, e := tape.Scan(d)
	if e != api.OK || !slices.Equal(records, want) {
		t.Fatalf("the records are %x, %d, want %x", records, e, want)
	}
}
