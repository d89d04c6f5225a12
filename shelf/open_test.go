package shelf_test

import (
	"strings"
	"testing"

	"fasti/api"
	"fasti/cell"
	"fasti/drum"
	"fasti/shelf"
)

func expectRefused(t *testing.T, what string, d *drum.Drum, want api.Errno) {
	t.Helper()
	if s, cells, e := shelf.Open(d); s != nil || len(cells) != 0 || e != want {
		t.Errorf("%s: Open = %v, %v, %d, want %d", what, s, cells, e, want)
	}
}

func TestOpenWithoutPower(t *testing.T) {
	d := written(t, "", modelRecord(cell.Num(1), node("a")))
	d.Arm(0)
	d.Settle()
	expectRefused(t, "no power", d, api.ErrDown)
}

// lastLife returns a sector of the greatest epoch, which is not part of a record.
func lastLife() string {
	s := "\xff\xff\xff\xff" + "\x00\x00\x00\x09" + "\x00\x00" + "\x80" + strings.Repeat("\x00", 51)
	sum := 0
	for i := range len(s) {
		sum += int(s[i]) * (i + 1)
	}
	sum %= 65521
	return s + string([]byte{byte(sum >> 8), byte(sum)})
}

func TestOpenInTheLastEpoch(t *testing.T) {
	for what, d := range map[string]*drum.Drum{"no record": newDrum(t, 300), "a batch": written(t, modelRecord(cell.Num(1))), "no batch": written(t, "x")} {
		expectErrno(t, "Write", d.Write(200, lastLife()), api.OK)
		expectRefused(t, what, d, api.ErrBig)
	}
}

func list(l ...api.Cell) string {
	return modelCell(cell.List(l...))
}

func texts(objects ...api.Object) api.Cell {
	var l []api.Cell
	for _, o := range objects {
		l = append(l, cell.Text(encoding(o)))
	}
	return cell.List(l...)
}

// wrongRecords are no batch's, each for one reason.
func wrongRecords() map[string]string {
	good := modelRecord(cell.Num(1), node("a"))
	a := encoding(node("a"))
	records := map[string]string{
		"nothing":                       "",
		"an integer":                    modelCell(cell.Num(1)),
		"a string":                      modelCell(cell.Text("a")),
		"a string that is a batch":      modelCell(cell.Text(good)),
		"no element":                    list(),
		"one element":                   list(cell.Num(1)),
		"one list":                      list(texts(node("a"))),
		"three elements":                list(cell.Num(1), texts(node("a")), texts()),
		"three elements, an integer":    list(cell.Num(1), texts(node("a")), cell.Num(1)),
		"a list around":                 list(cell.List(cell.Num(1), texts(node("a")))),
		"the other order":               list(texts(node("a")), cell.Num(1)),
		"an integer for the list":       list(cell.Num(1), cell.Num(0)),
		"a string for the list":         list(cell.Num(1), cell.Text(a)),
		"an empty string for the list":  list(cell.Num(1), cell.Text("")),
		"an integer in the list":        list(cell.Num(1), cell.List(cell.Num(0))),
		"an integer at the end":         list(cell.Num(1), cell.List(cell.Text(a), cell.Num(0))),
		"an empty list in the list":     list(cell.Num(1), cell.List(cell.List())),
		"an object that is not a text":  list(cell.Num(1), cell.List(cell.List(cell.Num(1), cell.Text("a"), cell.List(), cell.List()))),
		"a list of the list":            list(cell.Num(1), cell.List(texts(node("a")))),
		"an empty encoding":             list(cell.Num(1), cell.List(cell.Text(""))),
		"an empty encoding at the end":  list(cell.Num(1), cell.List(cell.Text(a), cell.Text(""))),
		"an encoding of no object":      list(cell.Num(1), cell.List(cell.Text("\x10"))),
		"no encoding at all":            list(cell.Num(1), cell.List(cell.Text("x"))),
		"a short encoding":              list(cell.Num(1), cell.List(cell.Text(a[:len(a)-1]))),
		"a long encoding":               list(cell.Num(1), cell.List(cell.Text(a+"\x10"))),
		"a deep encoding":               list(cell.Num(1), cell.List(cell.Text(strings.Repeat("\x41\x01", 16)+"\x10"))),
		"an encoding of a long label":   list(cell.Num(1), cell.List(cell.Text("\x41\x04\x11\x01\x31\x19"+strings.Repeat("a", 25)+"\x40\x40"))),
		"an encoding of a wrong commit": list(cell.Num(1), cell.List(cell.Text("\x41\x05\x11\x02\x40\x10\x30\x30"))),
		"the id of an object":           list(cell.Num(1), cell.List(cell.Text(idOf(node("a"))))),
		"a byte after it":               good + "\x10",
		"an element after it":           good + modelCell(texts()),
		"another form of the integer 1": "\x41\x02" + "\x12\x00\x01" + modelCell(texts(node("a"))),
		"another form of the length 2":  "\x42\x00\x02" + modelCell(cell.Num(1)) + modelCell(texts(node("a"))),
		"an unknown kind":               "\x41\x02\x50" + modelCell(texts(node("a"))),
		"a cell of depth 15":            list(nested(cell.Num(1), 14), texts()),
		"an empty list of depth 15":     list(nested(cell.List(), 14), texts(node("a"))),
		"a cell of depth 16":            list(nested(cell.Num(1), 15), texts()),
		"a cell of depth 99":            list(nested(cell.Num(1), 98), texts()),
		"a cell of depth 15 at the end": list(cell.List(cell.Num(1), nested(cell.Num(1), 13)), texts()),
		"a cell of 4096 elements":       "\x41\x02" + "\x42\x10\x00" + strings.Repeat("\x10", 4096) + modelCell(texts()),
		"a list in itself":              strings.Repeat("\x41\x02", 200),
	}
	for i := range good {
		records["the first bytes of a batch: "+modelCell(cell.Num(i))] = good[:i]
	}
	return records
}

func TestOpenOfWrongRecords(t *testing.T) {
	good := modelRecord(cell.Num(1), node("a"))
	for what, r := range wrongRecords() {
		expectRefused(t, what, written(t, r), api.ErrFormat)
		expectRefused(t, what+" after a batch", written(t, good, r), api.ErrFormat)
		expectRefused(t, what+" before a batch", written(t, r, good), api.ErrFormat)
	}
}

func TestOpenWritesNothing(t *testing.T) {
	for _, records := range [][]string{nil, {modelRecord(cell.Num(1), node("a"))}, {"x"}} {
		d := written(t, records...)
		d.Arm(0)
		shelf.Open(d)
		if d.Down() || d.Loose() != 0 {
			t.Errorf("Down = %v, Loose = %d", d.Down(), d.Loose())
		}
	}
}

// TestOpenOfBatches has batches that were written by hand.
func TestOpenOfBatches(t *testing.T) {
	var cells []api.Cell
	var records []string
	objects := someObjects()
	for i, c := range someCells() {
		cells, records = append(cells, c), append(records, modelRecord(c, objects[:i]...))
		s := open(t, written(t, records...), cells...)
		expectObjects(t, s, 0, objects[:i]...)
		s = open(t, written(t, records[i]), c)
		expectObjects(t, s, 0, objects[:i]...)
	}
}

// TestOpenOfTheSameObjectTwice has an encoding several times, which is not a clash.
func TestOpenOfTheSameObjectTwice(t *testing.T) {
	s := open(t, written(t, modelRecord(cell.Num(1), node("a"), node("b"), node("a"))), cell.Num(1))
	expectObjects(t, s, 0, node("a"), node("b"))
	s = open(t, written(t, modelRecord(cell.Num(1), node("a")), modelRecord(cell.Num(2), node("b"), node("a"))), cell.Num(1), cell.Num(2))
	expectObjects(t, s, 0, node("a"), node("b"))
}
