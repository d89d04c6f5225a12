package object_test

import (
	"math"
	"strings"
	"testing"

	"fasti/api"
	"fasti/cell"
	"fasti/object"
)

// tellingObjects have few bytes, but each part that an object may have.
func tellingObjects() []api.Object {
	rows := []api.Row{{From: 0, To: 2, V: num(5)}, {From: 2, To: 300, V: text("v")}}
	kids := []api.Kid{{First: 'c', Id: id("i")}, {First: 'd', Id: id("j")}}
	return []api.Object{
		{Kind: api.ONode},
		{Kind: api.ONode, Label: "ab", Rows: rows, Kids: kids},
		{Kind: api.OCommit, Root: id("r")},
		{Kind: api.OCommit, Parents: []string{id("p"), id("q")}, Stamp: 7, Note: "n", Root: id("r")},
	}
}

func tellingCells() []api.Cell {
	l := []api.Cell{
		cell.List(), cell.List(cell.Num(1)), cell.List(cell.Text("")), cell.List(cell.List()), cell.List(cell.Text(id("i"))),
		cell.List(cell.Text(id("i")), cell.Text(id("j")), cell.Text(id("k"))),
		cell.List(cell.Num(0), cell.Num(1)), cell.List(cell.Num(0), cell.Num(1), cell.Num(2)), cell.List(cell.List(cell.Num(0), cell.Num(1), cell.Num(2))),
		cell.List(cell.Num(255), cell.Text(id("i"))), cell.List(cell.Num(256), cell.Text(id("i"))), cell.List(cell.List(cell.Num(7), cell.Text(id("i")))),
	}
	for _, n := range []int{-1, 0, 1, 2, 3, 99, 100, 101, 255, 256, 256 + 'c', 1<<32 + 1, 1<<32 + 2, api.MaxTime, api.MaxTime + 1, math.MaxInt, math.MinInt} {
		l = append(l, cell.Num(n))
	}
	for _, count := range []int{0, 1, 24, 25, 31, 32, 33, 40, 41} {
		l = append(l, cell.Text(strings.Repeat("a", count)), cell.Text(strings.Repeat("\xff", count)))
	}
	return l
}

// listsLike returns lists with one element taken out, doubled, added, or put elsewhere.
func listsLike(l []api.Cell) []api.Cell {
	var out []api.Cell
	for i := range l {
		before, after := l[:i:i], l[i+1:]
		out = append(out, cell.List(append(before, after...)...), cell.List(append(append(before, l[i], l[i]), after...)...))
		if len(after) > 0 {
			out = append(out, cell.List(append(append(before, after[0], l[i]), after[1:]...)...))
		}
	}
	for _, c := range tellingCells() {
		out = append(out, cell.List(append(l[:len(l):len(l)], c)...), cell.List(append([]api.Cell{c}, l...)...))
	}
	return out
}

// cellsLike returns the cells that differ from c in one place, at any depth.
func cellsLike(c api.Cell) []api.Cell {
	out := tellingCells()
	if c.Kind != api.CList {
		return out
	}
	out = append(out, listsLike(c.L)...)
	for i := range c.L {
		for _, other := range cellsLike(c.L[i]) {
			like := cell.List(c.L...)
			like.L[i] = other
			out = append(out, like)
		}
	}
	return out
}

func TestTakeOfOtherCells(t *testing.T) {
	taken, refused := 0, 0
	for _, o := range tellingObjects() {
		s, _ := object.Put(o)
		c, _ := cell.Take(s)
		for _, like := range cellsLike(c) {
			s, e := cell.Put(like)
			if e != api.OK {
				t.Fatalf("the cell %v is not valid", like)
			}
			switch e := compareTake(t, s); e {
			case api.OK:
				taken++
			case api.ErrFormat:
				refused++
			default:
				t.Errorf("Take of the cell %v = %d", like, e)
			}
		}
	}
	if taken < 100 || refused < 1000 {
		t.Errorf("%d cells are those of objects, and %d are not", taken, refused)
	}
}

// TestTakeOfChangedBytes has each byte changed to each other one, and taken out.
func TestTakeOfChangedBytes(t *testing.T) {
	errors := map[api.Errno]int{}
	for _, o := range tellingObjects() {
		s, _ := object.Put(o)
		for i := range len(s) {
			for c := range 256 {
				errors[compareTake(t, s[:i]+string([]byte{byte(c)})+s[i+1:])]++
			}
			errors[compareTake(t, s[:i]+s[i+1:])]++
		}
	}
	for _, e := range []api.Errno{api.OK, api.ErrFormat, api.ErrShort} {
		if errors[e] < 100 {
			t.Errorf("Take returned %d %d times", e, errors[e])
		}
	}
}

func TestTakeOfCutBytes(t *testing.T) {
	for _, o := range validObjects() {
		s, _ := object.Put(o)
		for end := 0; end < len(s); end += 1 + len(s)/300 {
			if o, e := object.Take(s[:end]); !same(o, api.Object{}) || e != api.ErrShort {
				t.Fatalf("Take of %d bytes of %d = %v, %d, want ErrShort", end, len(s), o, e)
			}
		}
		for _, more := range []string{"\x00", "\x10", "\x41", s} {
			if o, e := object.Take(s + more); !same(o, api.Object{}) || e != api.ErrFormat {
				t.Fatalf("Take with %d bytes more = %v, %d, want ErrFormat", len(more), o, e)
			}
		}
	}
}

// TestTakeRefuses has the errors of cell's Take, which are there before the cell
// is found not to be that of an object.
func TestTakeRefuses(t *testing.T) {
	for _, c := range []struct {
		s    string
		want api.Errno
	}{
		{"", api.ErrShort},
		{"\x41", api.ErrShort},
		{"\x41\x03\x11\x01", api.ErrShort},
		{"\x41\x01\x41\x09", api.ErrShort},
		{"\x31\x02a", api.ErrShort},
		{"\x00", api.ErrFormat},
		{"\x43\x00\x00\x00", api.ErrFormat},
		{"\x41\x04\x11\x00\x30\x40\x40", api.ErrFormat},
		{"\x41\x04\x11\x01\x30\x40\x41\x00", api.ErrFormat},
		{strings.Repeat("\x41\x01", 16) + "\x10", api.ErrBig},
		{strings.Repeat("\x41\x01", 16), api.ErrShort},
		{"\x41\x04\x11\x01\x30\x40" + strings.Repeat("\x41\x01", 16) + "\x40", api.ErrBig},
		{"\x41\x04\x11\x01\x30\x40" + strings.Repeat("\x41\x01", 14) + "\x40", api.ErrFormat},
		{"\x10", api.ErrFormat},
		{"\x11\x01", api.ErrFormat},
		{"\x30", api.ErrFormat},
		{"\x40", api.ErrFormat},
		{"\x41\x01\x11\x01", api.ErrFormat},
		{"\x41\x04\x11\x01\x30\x40\x40\x10", api.ErrFormat},
		{"\x41\x04\x11\x02\x30\x40\x40", api.ErrFormat},
		{"\x41\x04\x10\x30\x40\x40", api.ErrFormat},
		{"\x41\x04\x20\x30\x40\x40", api.ErrFormat},
		{"\x41\x04\x31\x01\x01\x30\x40\x40", api.ErrFormat},
		{"\x41\x05\x11\x01\x40\x10\x30\x31\x20" + id("r"), api.ErrFormat},
		{"\x41\x05\x11\x03\x40\x10\x30\x31\x20" + id("r"), api.ErrFormat},
		{"\x41\x05\x15\x01\x00\x00\x00\x02\x40\x10\x30\x31\x20" + id("r"), api.ErrFormat},
	} {
		if o, e := object.Take(c.s); !same(o, api.Object{}) || e != c.want {
			t.Errorf("Take(%x) = %v, %d, want %d", c.s, o, e, c.want)
		}
		compareTake(t, c.s)
	}
}

// TestTakeOfInvalidObjects has the cells that objects would have if they were valid.
func TestTakeOfInvalidObjects(t *testing.T) {
	for what, o := range invalidObjects() {
		s := modelEncoding(o)
		if again, e := modelTake(s); e == api.OK && !same(again, o) {
			continue // an encoding leaves out what the kind does not use
		}
		if o, e := object.Take(s); !same(o, api.Object{}) || e != api.ErrFormat {
			t.Errorf("%s: Take(%x) = %v, %d, want ErrFormat", what, s, o, e)
		}
	}
}
