package shelf_test

import (
	"strconv"
	"strings"
	"testing"

	"fasti/api"
	"fasti/cell"
	"fasti/digest"
	"fasti/drum"
	"fasti/shelf"
	"fasti/tape"
)

func TestExample(t *testing.T) {
	d := newDrum(t, 9)
	s := open(t, d)
	store(t, s, cell.Num(7), node("ab"))
	if s.Len() != 1 || s.Batches() != 1 {
		t.Errorf("Len = %d, Batches = %d", s.Len(), s.Batches())
	}
	expectObjects(t, open(t, d, cell.Num(7)), 0, node("ab"))
}

func TestNilAndZeroShelf(t *testing.T) {
	for what, s := range map[string]*shelf.Shelf{"nil": nil, "zero": {}} {
		for range 2 {
			for _, o := range []api.Object{node("a"), {}} {
				if id, e := s.Put(o); id != "" || e != api.ErrNil {
					t.Errorf("%s: Put = %x, %d", what, id, e)
				}
			}
			for _, id := range []string{"", idOf(node("a"))} {
				if o, e := s.Get(id); !isZero(o) || e != api.ErrNil {
					t.Errorf("%s: Get = %v, %d", what, o, e)
				}
			}
			for _, c := range []api.Cell{cell.Num(1), {}, nested(cell.Num(1), 14)} {
				expectErrno(t, what+": Commit", s.Commit(c), api.ErrNil)
			}
			if s.Drop() != 0 || s.Len() != 0 || s.Fresh() != 0 || s.Room() != 0 || s.Batches() != 0 {
				t.Errorf("%s: Drop, Len, Fresh, Room, Batches = %d, %d, %d, %d, %d", what, s.Drop(), s.Len(), s.Fresh(), s.Room(), s.Batches())
			}
		}
	}
}

func TestPut(t *testing.T) {
	d := newDrum(t, 500)
	s := open(t, d)
	var there []api.Object
	for _, o := range someObjects() {
		put(t, s, o)
		there = append(there, o)
		expectObjects(t, s, len(there), there...)
	}
	put(t, s, someObjects()...)
	expectObjects(t, s, len(there), there...)
	expectErrno(t, "Commit", s.Commit(cell.Num(1)), api.OK)
	put(t, s, someObjects()...)
	expectObjects(t, s, 0, there...)
	put(t, s, node("new"), node("a"), node("new"))
	expectObjects(t, s, 1, append(there, node("new"))...)
}

func TestPutOfWrongObjects(t *testing.T) {
	s := open(t, newDrum(t, 50))
	put(t, s, node("a"))
	for what, o := range wrongObjects() {
		if id, e := s.Put(o); id != "" || e != api.ErrArg {
			t.Errorf("%s: Put = %x, %d, want %d", what, id, e, api.ErrArg)
		}
		expectObjects(t, s, 1, node("a"))
	}
}

// TestPutWritesNothing has fresh objects be in memory alone.
func TestPutWritesNothing(t *testing.T) {
	d := newDrum(t, 5)
	s := open(t, d)
	d.Arm(0)
	put(t, s, node("a"))
	s.Drop()
	put(t, s, node("b"))
	expectObjects(t, s, 1, node("b"))
	if d.Down() || d.Loose() != 0 || s.Room() != 5 {
		t.Errorf("Down = %v, Loose = %d, Room = %d", d.Down(), d.Loose(), s.Room())
	}
	expectObjects(t, open(t, d), 0)
}

func TestGetOfNoId(t *testing.T) {
	s := open(t, newDrum(t, 50))
	store(t, s, cell.Num(1), node("a"))
	put(t, s, node("b"))
	id := idOf(node("a"))
	for _, none := range []string{"", id[:31], id + "a", id[1:], strings.Repeat("\x00", 32), idOf(node("c")), encoding(node("a")), digest.Hex(id), digest.Sum(id)} {
		expectNoObject(t, s, none)
	}
	expectObjects(t, s, 1, node("a"), node("b"))
}

// TestIds has what Get returns have the id that it was asked for.
func TestIds(t *testing.T) {
	d := newDrum(t, 500)
	s := open(t, d)
	check := func(s *shelf.Shelf) {
		t.Helper()
		for _, want := range someObjects() {
			id := digest.Sum(encoding(want))
			o, e := s.Get(id)
			if again := digest.Sum(encoding(o)); e != api.OK || again != id {
				t.Errorf("Get of %x has the id %x, %d", id, again, e)
			}
		}
	}
	put(t, s, someObjects()...)
	check(s)
	expectErrno(t, "Commit", s.Commit(cell.Num(1)), api.OK)
	check(s)
	check(open(t, d, cell.Num(1)))
}

func TestCommit(t *testing.T) {
	d := newDrum(t, 500)
	s := open(t, d)
	var cells []api.Cell
	var records []string
	var there []api.Object
	room := 500
	objects := someObjects()
	for i, c := range someCells() {
		var batch []api.Object
		for len(batch) < i%3 && len(objects) > 0 {
			batch, objects = append(batch, objects[len(objects)-1]), objects[:len(objects)-1]
		}
		store(t, s, c, batch...)
		cells, records, there = append(cells, c), append(records, modelRecord(c, batch...)), append(there, batch...)
		room -= tape.Need(len(records[i]))
		expectObjects(t, s, 0, there...)
		if s.Batches() != i+1 || s.Room() != room || d.Loose() != 0 {
			t.Errorf("Batches = %d, Room = %d, Loose = %d, want %d, %d, 0", s.Batches(), s.Room(), d.Loose(), i+1, room)
		}
		expectRecords(t, d, records...)
		again := open(t, d, cells...)
		expectObjects(t, again, 0, there...)
		if again.Room() != room {
			t.Errorf("opened again, Room = %d, want %d", again.Room(), room)
		}
	}
}

func TestCommitOrder(t *testing.T) {
	d := newDrum(t, 50)
	s := open(t, d)
	put(t, s, node("c"), node("a"), commit(5), node("c"), node("b"), node("a"))
	expectErrno(t, "Commit", s.Commit(cell.Num(1)), api.OK)
	put(t, s, node("z"), node("c"), node("y"))
	s.Drop()
	put(t, s, node("y"), node("a"), node("x"), node("z"), node("y"))
	expectErrno(t, "Commit", s.Commit(cell.Num(2)), api.OK)
	expectErrno(t, "Commit", s.Commit(cell.Num(3)), api.OK)
	expectRecords(t, d,
		modelRecord(cell.Num(1), node("c"), node("a"), commit(5), node("b")),
		modelRecord(cell.Num(2), node("y"), node("x"), node("z")),
		modelRecord(cell.Num(3)))
}

func TestCommitOfWrongCells(t *testing.T) {
	d := newDrum(t, 50)
	s := open(t, d)
	store(t, s, cell.Num(1), node("a"))
	put(t, s, node("b"))
	room := s.Room()
	d.Arm(0)
	for what, c := range wrongCells() {
		expectErrno(t, what, s.Commit(c), api.ErrArg)
		expectObjects(t, s, 1, node("a"), node("b"))
		if s.Batches() != 1 || s.Room() != room || d.Down() {
			t.Errorf("%s: Batches = %d, Room = %d, Down = %v", what, s.Batches(), s.Room(), d.Down())
		}
	}
	d.Crash(nil)
	expectErrno(t, "Commit", s.Commit(cell.Num(2)), api.OK)
	expectRecords(t, d, modelRecord(cell.Num(1), node("a")), modelRecord(cell.Num(2), node("b")))
}

func labels(from, count int) []api.Object {
	var out []api.Object
	for i := range count {
		out = append(out, node(strconv.Itoa(from+i)))
	}
	return out
}

// TestCommitOfManyObjects has as many fresh objects as a batch may have, and one more.
func TestCommitOfManyObjects(t *testing.T) {
	d := newDrum(t, 4096)
	s := open(t, d)
	put(t, s, labels(0, 4096)...)
	d.Arm(0)
	for range 2 {
		expectErrno(t, "Commit of too many", s.Commit(cell.Num(1)), api.ErrBig)
		expectErrno(t, "Commit of too many with a wrong cell", s.Commit(api.Cell{}), api.ErrArg)
		expectErrno(t, "Commit of too many with a deep cell", s.Commit(nested(cell.Num(1), 14)), api.ErrArg)
		if s.Fresh() != 4096 || s.Len() != 4096 || s.Batches() != 0 || s.Room() != 4096 || d.Down() {
			t.Fatalf("Fresh = %d, Len = %d, Batches = %d, Room = %d, Down = %v", s.Fresh(), s.Len(), s.Batches(), s.Room(), d.Down())
		}
	}
	d.Crash(nil)
	if n := s.Drop(); n != 4096 {
		t.Fatalf("Drop = %d", n)
	}
	expectObjects(t, s, 0)
	store(t, s, nested(cell.Num(1), 13), labels(0, 4095)...)
	expectRecords(t, d, modelRecord(nested(cell.Num(1), 13), labels(0, 4095)...))
	store(t, s, cell.Num(2), labels(3000, 2000)...)
	again := open(t, d, nested(cell.Num(1), 13), cell.Num(2))
	expectObjects(t, again, 0, labels(0, 5000)...)
}

func TestErrBigBeforeErrFull(t *testing.T) {
	s := open(t, newDrum(t, 1))
	put(t, s, labels(0, 4096)...)
	expectErrno(t, "Commit", s.Commit(cell.Num(1)), api.ErrBig)
	if s.Fresh() != 4096 {
		t.Errorf("Fresh = %d", s.Fresh())
	}
}

// TestCommitWithoutRoom has a batch that fills the drum, and one byte more.
func TestCommitWithoutRoom(t *testing.T) {
	d := newDrum(t, 3)
	s := open(t, d)
	fit := strings.Repeat("x", 153-len(modelRecord(cell.Num(0), node("a")))-1)
	if n := len(modelRecord(cell.Text(fit), node("a"))); n != 153 {
		t.Fatalf("the record has %d bytes", n)
	}
	put(t, s, node("a"))
	expectErrno(t, "Commit of one byte more", s.Commit(cell.Text(fit+"x")), api.ErrFull)
	expectObjects(t, s, 0)
	if s.Batches() != 0 || s.Room() != 3 || d.Loose() != 0 {
		t.Errorf("Batches = %d, Room = %d, Loose = %d", s.Batches(), s.Room(), d.Loose())
	}
	store(t, s, cell.Text(fit), node("a"))
	put(t, s, node("b"), node("a"))
	expectErrno(t, "Commit on a full drum", s.Commit(cell.Num(1)), api.ErrFull)
	expectObjects(t, s, 0, node("a"))
	if s.Batches() != 1 || s.Room() != 0 {
		t.Errorf("Batches = %d, Room = %d", s.Batches(), s.Room())
	}
	expectErrno(t, "Commit of nothing on a full drum", s.Commit(cell.Num(1)), api.ErrFull)
	expectErrno(t, "Commit of a wrong cell on a full drum", s.Commit(api.Cell{}), api.ErrArg)
	expectObjects(t, open(t, d, cell.Text(fit)), 0, node("a"))
}

func TestDrop(t *testing.T) {
	d := newDrum(t, 50)
	s := open(t, d)
	if n := s.Drop(); n != 0 {
		t.Errorf("Drop of nothing = %d", n)
	}
	store(t, s, cell.Num(1), node("a"), node("b"))
	if n := s.Drop(); n != 0 {
		t.Errorf("Drop after Commit = %d", n)
	}
	put(t, s, node("b"), commit(1), node(""), commit(1))
	expectObjects(t, s, 2, node("a"), node("b"), commit(1), node(""))
	if n := s.Drop(); n != 2 {
		t.Errorf("Drop = %d, want 2", n)
	}
	expectObjects(t, s, 0, node("a"), node("b"))
	if n := s.Drop(); n != 0 {
		t.Errorf("Drop after Drop = %d", n)
	}
	put(t, s, commit(1))
	expectObjects(t, s, 1, node("a"), node("b"), commit(1))
	expectErrno(t, "Commit", s.Commit(cell.Num(2)), api.OK)
	expectRecords(t, d, modelRecord(cell.Num(1), node("a"), node("b")), modelRecord(cell.Num(2), commit(1)))
}

// TestShelvesAreIndependent has two shelves of two drums not know of each other.
func TestShelvesAreIndependent(t *testing.T) {
	a, b := open(t, newDrum(t, 9)), open(t, newDrum(t, 9))
	put(t, a, node("a"))
	put(t, b, node("b"))
	expectObjects(t, a, 1, node("a"))
	expectErrno(t, "Commit", a.Commit(cell.Num(1)), api.OK)
	a.Drop()
	expectObjects(t, b, 1, node("b"))
	if b.Batches() != 0 || b.Room() != 9 {
		t.Errorf("Batches = %d, Room = %d", b.Batches(), b.Room())
	}
}

func spoil(o api.Object) {
	for i := range o.Rows[:cap(o.Rows)] {
		o.Rows[:cap(o.Rows)][i] = api.Row{From: 9, To: 1}
	}
	for i := range o.Kids[:cap(o.Kids)] {
		o.Kids[:cap(o.Kids)][i] = api.Kid{First: 'x'}
	}
	for i := range o.Parents[:cap(o.Parents)] {
		o.Parents[:cap(o.Parents)][i] = "x"
	}
}

// TestSharedObjects changes what was put and what was got, and has the shelf not notice.
func TestSharedObjects(t *testing.T) {
	d := newDrum(t, 500)
	s := open(t, d)
	for _, o := range someObjects() {
		put(t, s, o)
		spoil(o)
	}
	for _, reopened := range []bool{false, true} {
		if reopened {
			expectErrno(t, "Commit", s.Commit(cell.Num(1)), api.OK)
			s = open(t, d, cell.Num(1))
		}
		for _, want := range someObjects() {
			o, _ := s.Get(idOf(want))
			again, _ := s.Get(idOf(want))
			spoil(o)
			if encoding(again) != encoding(want) {
				t.Errorf("a change of what Get returned changed %v to %v", want, again)
			}
			expectObject(t, s, want)
		}
	}
}

// TestSharedCells changes the cells of Commit and Open, and has the shelf not notice.
func TestSharedCells(t *testing.T) {
	d := newDrum(t, 50)
	s := open(t, d)
	inner := []api.Cell{cell.Num(1), cell.Text("a"), cell.Num(5)}
	outer := []api.Cell{{Kind: api.CList, L: inner[:2]}, cell.Num(2), cell.Num(6)}
	store(t, s, api.Cell{Kind: api.CList, L: outer[:2]}, node("a"))
	want := cell.List(cell.List(cell.Num(1), cell.Text("a")), cell.Num(2))
	if modelCell(cell.List(outer...)) != modelCell(cell.List(want.L[0], want.L[1], cell.Num(6))) || modelCell(inner[2]) != modelCell(cell.Num(5)) {
		t.Errorf("Commit changed its argument to %v", outer)
	}
	inner[0], outer[1] = api.Cell{}, api.Cell{}
	store(t, s, want)
	_, cells, _ := shelf.Open(d)
	expectCells(t, cells, []api.Cell{want, want})
	cells[0].L[0].L[0], cells[0].L[1] = api.Cell{}, api.Cell{}
	expectCells(t, cells[1:], []api.Cell{want})
	expectObjects(t, open(t, d, want, want), 0, node("a"))
}

func TestOpenOfNoDrum(t *testing.T) {
	for what, d := range map[string]*drum.Drum{"nil": nil, "zero": {}} {
		if s, cells, e := shelf.Open(d); s != nil || len(cells) != 0 || e != api.ErrNil {
			t.Errorf("%s: Open = %v, %v, %d", what, s, cells, e)
		}
	}
}
