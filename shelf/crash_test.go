package shelf_test

import (
	"testing"

	"fasti/api"
	"fasti/cell"
	"fasti/drum"
	"fasti/shelf"
	"fasti/tape"
)

// batch is what a Commit stores.
type batch struct {
	c       api.Cell
	objects []api.Object
}

func cellsOf(l []batch) []api.Cell {
	var out []api.Cell
	for _, b := range l {
		out = append(out, b.c)
	}
	return out
}

func objectsOf(l []batch) []api.Object {
	var out []api.Object
	for _, b := range l {
		out = append(out, b.objects...)
	}
	return out
}

func recordsOf(l []batch) []string {
	var out []string
	for _, b := range l {
		out = append(out, modelRecord(b.c, b.objects...))
	}
	return out
}

// calls returns the number of calls of the drum that storing a batch needs.
func (b batch) calls() int {
	return tape.Need(len(modelRecord(b.c, b.objects...))) + 1
}

func someBatches() []batch {
	o := someObjects()
	return []batch{
		{cell.Num(1), o[:1]},
		{cell.List(cell.Text("some bytes of the cell of a batch"), cell.Num(2)), o[1:3]},
		{cell.Num(3), nil},
		{cell.Text("4"), []api.Object{o[4], o[8], o[5]}},
	}
}

func kept(bits int) []int {
	var out []int
	for i := range 30 {
		if bits>>i&1 == 1 {
			out = append(out, i)
		}
	}
	return out
}

// crashes calls f with a drum for each set of pending writes that may be kept,
// and tells it whether all of them are.
func crashes(t *testing.T, d *drum.Drum, f func(d *drum.Drum, all bool)) {
	t.Helper()
	sets := 1 << d.Loose()
	for bits := range sets {
		c := d.Copy()
		expectErrno(t, "Crash", c.Crash(kept(bits)), api.OK)
		f(c, bits == sets-1)
	}
}

// storeUntilDown stores batches until the power fails, and returns how many it
// has stored, and whether the whole record of the next one is pending.
func storeUntilDown(t *testing.T, s *shelf.Shelf, l []batch, fuse int) (int, bool) {
	t.Helper()
	for i, b := range l {
		if fuse >= b.calls() {
			fuse -= b.calls()
			store(t, s, b.c, b.objects...)
			continue
		}
		put(t, s, b.objects...)
		expectErrno(t, "Commit", s.Commit(b.c), api.ErrDown)
		expectObjects(t, s, 0, objectsOf(l[:i])...)
		return i, fuse == b.calls()-1
	}
	return len(l), false
}

// TestEveryCrash has the power fail at each call of the drum, keeps every set of
// pending sectors, and goes on with a second shelf.
func TestEveryCrash(t *testing.T) {
	l := someBatches()
	total := 0
	for _, b := range l {
		total += b.calls()
	}
	for fuse := range total + 1 {
		d := newDrum(t, 40)
		s := open(t, d)
		expectErrno(t, "Arm", d.Arm(fuse), api.OK)
		stored, pending := storeUntilDown(t, s, l, fuse)
		if d.Down() != (fuse < total) || stored == len(l) != (fuse == total) {
			t.Fatalf("fuse %d: %d batches are stored, Down = %v", fuse, stored, d.Down())
		}
		crashes(t, d, func(d *drum.Drum, all bool) {
			there := l[:stored:stored]
			if pending && all {
				there = l[: stored+1 : stored+1]
			}
			again := open(t, d, cellsOf(there)...)
			expectObjects(t, again, 0, objectsOf(there)...)
			goOn(t, d, again, there)
		})
	}
}

// goOn stores a batch with some objects of which no part may be left, and loses another one.
func goOn(t *testing.T, d *drum.Drum, s *shelf.Shelf, there []batch) {
	t.Helper()
	o := someObjects()
	var next batch
	next.c = cell.Text("next")
	known := map[string]bool{}
	for _, x := range objectsOf(there) {
		known[idOf(x)] = true
	}
	for _, x := range o[3:7] {
		put(t, s, x)
		if !known[idOf(x)] {
			next.objects = append(next.objects, x)
		}
	}
	expectErrno(t, "Commit", s.Commit(next.c), api.OK)
	there = append(there, next)
	expectRecords(t, d, recordsOf(there)...)
	expectErrno(t, "Crash", d.Crash(nil), api.OK)
	expectObjects(t, open(t, d, cellsOf(there)...), 0, objectsOf(there)...)
	put(t, s, node("lost"))
	expectErrno(t, "Arm", d.Arm(1), api.OK)
	expectErrno(t, "Commit", s.Commit(cell.Text("lost")), api.ErrDown)
	expectErrno(t, "Crash", d.Crash(nil), api.OK)
	expectObjects(t, open(t, d, cellsOf(there)...), 0, objectsOf(there)...)
}

// TestShelfAfterAFailure has a shelf whose Commit met a failing drum: it keeps
// what it has, and stores nothing more, also when the power is on again.
func TestShelfAfterAFailure(t *testing.T) {
	l := someBatches()
	for left := range l[1].calls() {
		d := newDrum(t, 40)
		s := open(t, d)
		store(t, s, l[0].c, l[0].objects...)
		room, batches := s.Room(), 1
		if left == l[1].calls()-1 {
			room, batches = room-left, 2
		}
		d.Arm(left)
		put(t, s, l[1].objects...)
		for range 2 {
			expectErrno(t, "Commit", s.Commit(l[1].c), api.ErrDown)
			expectObjects(t, s, 0, l[0].objects...)
			if s.Batches() != batches || s.Room() != room || d.Loose() != left {
				t.Fatalf("Batches = %d, Room = %d, Loose = %d, want %d, %d, %d", s.Batches(), s.Room(), d.Loose(), batches, room, left)
			}
			put(t, s, node("more"), l[0].objects[0])
			expectErrno(t, "Commit of a wrong cell", s.Commit(api.Cell{}), api.ErrArg)
			expectObjects(t, s, 1, append(l[0].objects[:1:1], node("more"))...)
		}
		d.Crash(nil)
		expectErrno(t, "Commit after the crash", s.Commit(cell.Num(5)), api.ErrDown)
		expectObjects(t, s, 0, l[0].objects...)
		if d.Down() || d.Loose() != 0 {
			t.Errorf("Down = %v, Loose = %d", d.Down(), d.Loose())
		}
		expectObjects(t, open(t, d, l[0].c), 0, l[0].objects...)
	}
}

// TestFreshObjectsAreLost has objects that no batch has not outlive their shelf.
func TestFreshObjectsAreLost(t *testing.T) {
	d := newDrum(t, 40)
	s := open(t, d)
	store(t, s, cell.Num(1), node("a"))
	put(t, s, node("b"))
	expectObjects(t, open(t, d, cell.Num(1)), 0, node("a"))
	d.Crash(nil)
	expectObjects(t, open(t, d, cell.Num(1)), 0, node("a"))
	expectObjects(t, s, 1, node("a"), node("b"))
	expectErrno(t, "Commit", s.Commit(cell.Num(2)), api.OK)
	expectObjects(t, open(t, d, cell.Num(1), cell.Num(2)), 0, node("a"), node("b"))
}
