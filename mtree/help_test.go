package mtree_test

import (
	"reflect"
	"slices"
	"strings"
	"testing"

	"fasti/api"
	"fasti/cell"
	"fasti/drum"
	"fasti/mtree"
	"fasti/object"
	"fasti/radix"
	"fasti/shelf"
	"fasti/tape"
)

func num(n int) api.Value     { return api.Value{Kind: api.VNum, N: n} }
func text(s string) api.Value { return api.Value{Kind: api.VText, S: s} }

// rows returns one row, another one for each number.
func rows(n int) []api.Row { return []api.Row{{From: 1, To: 5, V: num(n)}} }

// manyRows returns rows with gaps between them.
func manyRows(count int) []api.Row {
	var l []api.Row
	for i := range count {
		l = append(l, api.Row{From: 3 * i, To: 3*i + 2, V: text(strings.Repeat("v", i%41))})
	}
	return l
}

func node(label string, l []api.Row, kids ...api.Kid) api.Object {
	return api.Object{Kind: api.ONode, Label: label, Rows: l, Kids: kids}
}

func idOf(o api.Object) string {
	id, _ := object.Id(o)
	return id
}

// kid returns the one that is an object: its First is that of the label.
func kid(o api.Object) api.Kid { return api.Kid{First: o.Label[0], Id: idOf(o)} }

// world is a shelf, and the drum that it is on.
type world struct {
	*shelf.Shelf
	d *drum.Drum
}

func newWorld(t *testing.T, sectors int) world {
	t.Helper()
	d, e := drum.New(sectors)
	expectErrno(t, "drum.New", e, api.OK)
	s, _, e := shelf.Open(d)
	expectErrno(t, "shelf.Open", e, api.OK)
	return world{s, d}
}

// stored commits the fresh objects and returns them, in the order in which they
// were put.
func (w world) stored(t *testing.T) []api.Object {
	t.Helper()
	expectErrno(t, "Commit", w.Commit(cell.Num(1)), api.OK)
	records, _, _, e := tape.Scan(w.d)
	expectErrno(t, "Scan", e, api.OK)
	batch, e := cell.Take(records[len(records)-1])
	expectErrno(t, "Take", e, api.OK)
	var l []api.Object
	for _, c := range batch.L[1].L {
		o, e := object.Take(c.S)
		expectErrno(t, "object.Take", e, api.OK)
		l = append(l, o)
	}
	return l
}

// put adds objects to the shelf and returns the id of the last one.
func (w world) put(t *testing.T, l ...api.Object) string {
	t.Helper()
	id := ""
	for _, o := range l {
		var e api.Errno
		id, e = w.Put(o)
		expectErrno(t, "shelf.Put", e, api.OK)
	}
	return id
}

// save stores the tree of a model and returns its id.
func (w world) save(t *testing.T, m model) string {
	t.Helper()
	u, e := radix.Build(m.entries())
	expectErrno(t, "Build", e, api.OK)
	id, e := mtree.Save(w.Shelf, u)
	expectErrno(t, "Save", e, api.OK)
	return id
}

func expectErrno(t *testing.T, what string, e, want api.Errno) {
	t.Helper()
	if e != want {
		t.Fatalf("%s: error %d, want %d", what, e, want)
	}
}

// expectObjects compares them by their ids.
func expectObjects(t *testing.T, what string, l, want []api.Object) {
	t.Helper()
	if !slices.EqualFunc(l, want, func(a, b api.Object) bool { return idOf(a) == idOf(b) }) {
		t.Fatalf("%s: the objects are %v, want %v", what, l, want)
	}
}

// sameTree and the others take nil slices for empty ones.
func sameTree(a, b api.Trie) bool {
	return a.Label == b.Label && slices.Equal(a.Rows, b.Rows) && slices.EqualFunc(a.Kids, b.Kids, sameTree)
}

func sameEntries(a, b []api.Entry) bool {
	return slices.EqualFunc(a, b, func(x, y api.Entry) bool { return x.Path == y.Path && slices.Equal(x.Rows, y.Rows) })
}

func sameChanges(a, b []api.Change) bool {
	return slices.EqualFunc(a, b, func(x, y api.Change) bool {
		return x.Path == y.Path && slices.Equal(x.Had, y.Had) && slices.Equal(x.Now, y.Now)
	})
}

func isZero(t api.Trie) bool { return reflect.ValueOf(t).IsZero() }

// expectRefused has all functions that read the tree of an id return an error,
// nothing else, and leave the shelf as it is.
func expectRefused(t *testing.T, what string, w world, id string, want api.Errno) {
	t.Helper()
	s := w.Shelf
	length, fresh := s.Len(), s.Fresh()
	empty, e := s.Put(node("", nil))
	if (e != api.OK) != (want == api.ErrNil) {
		t.Fatalf("Put of a tree without entries: error %d", e)
	}
	if s.Len() > length {
		length, fresh = length+1, fresh+1
	}
	if u, e := mtree.Load(s, id); !isZero(u) || e != want {
		t.Errorf("%s: Load = %v, %d, want %d", what, u, e, want)
	}
	for _, path := range []string{"a", "", "ab", strings.Repeat("a", 25)} {
		if l, e := mtree.Get(s, id, path); len(l) != 0 || e != want {
			t.Errorf("%s: Get(%q) = %v, %d, want %d", what, path, l, e, want)
		}
		if l, e := mtree.Under(s, id, path); len(l) != 0 || e != want {
			t.Errorf("%s: Under(%q) = %v, %d, want %d", what, path, l, e, want)
		}
		for _, l := range [][]api.Row{nil, rows(1), make([]api.Row, 1)} {
			if root, e := mtree.Put(s, id, path, l); root != "" || e != want {
				t.Errorf("%s: Put(%q, %v) = %x, %d, want %d", what, path, l, root, e, want)
			}
		}
	}
	for _, ids := range [][2]string{{id, id}, {id, empty}, {empty, id}} {
		if l, reads, e := mtree.Diff(s, ids[0], ids[1]); len(l) != 0 || reads != 0 || e != want {
			t.Errorf("%s: Diff(%x) = %v, %d, %d, want %d", what, ids, l, reads, e, want)
		}
	}
	if s.Len() != length || s.Fresh() != fresh {
		t.Errorf("%s: there are %d objects, %d of them fresh, want %d and %d", what, s.Len(), s.Fresh(), length, fresh)
	}
}
