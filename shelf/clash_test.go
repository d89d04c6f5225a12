package shelf

import (
	"testing"

	"fasti/api"
	"fasti/cell"
	"fasti/drum"
	"fasti/object"
)

// clashing returns a shelf on which an encoding has the id of the node "a",
// which is not its own: no two encodings with the same digest are known.
func clashing(t *testing.T, encoding string) *Shelf {
	t.Helper()
	d, _ := drum.New(20)
	s, _, e := Open(d)
	if e != api.OK {
		t.Fatalf("Open: error %d", e)
	}
	id, _ := object.Id(node("a"))
	s.encodings[id] = encoding
	return s
}

func node(label string) api.Object {
	return api.Object{Kind: api.ONode, Label: label}
}

func encoding(label string) string {
	s, _ := object.Put(node(label))
	return s
}

func TestPutClash(t *testing.T) {
	a, _ := object.Id(node("a"))
	for _, fresh := range []bool{false, true} {
		s := clashing(t, encoding("b"))
		if fresh {
			s.fresh = []string{a}
		}
		before := s.Fresh()
		for range 2 {
			if id, e := s.Put(node("a")); id != "" || e != api.ErrClash {
				t.Errorf("Put = %x, %d, want %d", id, e, api.ErrClash)
			}
			if s.Len() != 1 || s.Fresh() != before || s.encodings[a] != encoding("b") {
				t.Errorf("after ErrClash there are %d objects, %d fresh; the encoding is %x", s.Len(), s.Fresh(), s.encodings[a])
			}
		}
		if _, e := s.Put(api.Object{Kind: api.ONode, Label: "a", Stamp: 1}); e != api.ErrArg {
			t.Errorf("Put of a wrong object = %d, want %d", e, api.ErrArg)
		}
		if id, e := s.Put(node("c")); id == "" || e != api.OK || s.Len() != 2 || s.Fresh() != before+1 {
			t.Errorf("Put of another object = %x, %d", id, e)
		}
	}
}

// TestLoadClash has the first error of a record, and no error for an encoding
// that is there. Without a clash, a later error is found.
func TestLoadClash(t *testing.T) {
	a, b, wrong := cell.Text(encoding("a")), cell.Text(encoding("b")), cell.Text("x")
	for _, c := range []struct {
		encodings           []api.Cell
		clash, withoutClash api.Errno
	}{
		{[]api.Cell{b, b}, api.OK, api.OK},
		{[]api.Cell{a}, api.ErrClash, api.OK},
		{[]api.Cell{b, a}, api.ErrClash, api.OK},
		{[]api.Cell{a, wrong}, api.ErrClash, api.ErrFormat},
		{[]api.Cell{b, a, b, wrong}, api.ErrClash, api.ErrFormat},
		{[]api.Cell{wrong, a}, api.ErrFormat, api.ErrFormat},
		{[]api.Cell{b, wrong, a}, api.ErrFormat, api.ErrFormat},
		{[]api.Cell{a, cell.Num(1)}, api.ErrFormat, api.ErrFormat},
		{[]api.Cell{a, cell.List()}, api.ErrFormat, api.ErrFormat},
	} {
		record, _ := cell.Put(cell.List(cell.Num(7), cell.List(c.encodings...)))
		expectLoad(t, clashing(t, encoding("b")), record, c.clash)
		expectLoad(t, clashing(t, encoding("a")), record, c.withoutClash)
	}
}

func expectLoad(t *testing.T, s *Shelf, record string, want api.Errno) {
	t.Helper()
	c, e := s.load(record)
	if e != want || (e == api.OK) != (c.Kind == api.CNum && c.N == 7) {
		t.Errorf("load of %x = %v, %d, want %d", record, c, e, want)
	}
}
