package shelf_test

import (
	"math/rand"
	"reflect"
	"slices"
	"strconv"
	"strings"
	"testing"

	"fasti/api"
	"fasti/cell"
	"fasti/drum"
	"fasti/shelf"
	"fasti/tape"
)

const noFuse = -1

// model is what a shelf has, plainly: lists of all that was put and stored.
type model struct {
	batches []batch
	fresh   []api.Object
	pending []batch // at most one: its record is on the drum, but could not be flushed
	sectors int     // that are left
	fuse    int
	failed  bool
}

func (m *model) count() int {
	return len(objectsOf(m.batches)) + len(m.fresh)
}

func (m *model) has(o api.Object) bool {
	equals := func(other api.Object) bool { return reflect.DeepEqual(o, other) }
	return slices.ContainsFunc(m.fresh, equals) || slices.ContainsFunc(objectsOf(m.batches), equals)
}

func (m *model) put(o pooled) (string, api.Errno) {
	if o.encoding == "" {
		return "", api.ErrArg
	}
	if !m.has(o.Object) {
		m.fresh = append(m.fresh, o.Object)
	}
	return o.id, api.OK
}

// modelDepth may be called for a valid cell only.
func modelDepth(c api.Cell) int {
	deepest := 0
	for _, inner := range c.L {
		deepest = max(deepest, modelDepth(inner))
	}
	return deepest + 1
}

func (m *model) commit(c api.Cell) api.Errno {
	if cell.Check(c) != api.OK || modelDepth(c) > 14 {
		return api.ErrArg
	}
	b := batch{c, m.fresh}
	m.fresh = nil
	switch {
	case m.failed:
		return api.ErrDown
	case b.calls()-1 > m.sectors:
		return api.ErrFull
	case m.fuse != noFuse && m.fuse < b.calls():
		m.failed = true
		if m.fuse == b.calls()-1 {
			m.pending = []batch{b}
			m.sectors -= b.calls() - 1
		}
		return api.ErrDown
	}
	if m.fuse != noFuse {
		m.fuse -= b.calls()
	}
	m.sectors -= b.calls() - 1
	m.batches = append(m.batches, b)
	return api.OK
}

// pooled is an object with its id and its encoding, which are empty if it is wrong.
type pooled struct {
	api.Object
	id, encoding string
}

// objectPool has so few objects that they are put often.
func objectPool() []pooled {
	l := append(someObjects(), api.Object{}, node(strings.Repeat("a", 25)), api.Object{Kind: api.ONode, Stamp: 1})
	for i := range 20 {
		l = append(l, node("n"+strconv.Itoa(i)), commit(100+i))
	}
	var out []pooled
	for _, o := range l {
		out = append(out, pooled{o, idOf(o), encoding(o)})
	}
	return out
}

func randomCell(r *rand.Rand) api.Cell {
	switch r.Intn(12) {
	case 0:
		return cell.Text(strings.Repeat("x", r.Intn(400)))
	case 1:
		return nested(cell.Num(r.Intn(300)), 10+r.Intn(6))
	case 2:
		return api.Cell{Kind: api.CellKind(r.Intn(4)), N: r.Intn(2), S: strings.Repeat("s", r.Intn(2))}
	case 3:
		return cell.List(randomCell(r), randomCell(r))
	}
	return cell.Num(r.Intn(1000) - 500)
}

func expectModel(t *testing.T, s *shelf.Shelf, m *model) {
	t.Helper()
	batches := len(m.batches) + len(m.pending)
	if s.Len() != m.count() || s.Fresh() != len(m.fresh) || s.Batches() != batches || s.Room() != m.sectors {
		t.Fatalf("Len, Fresh, Batches, Room = %d, %d, %d, %d, want %d, %d, %d, %d",
			s.Len(), s.Fresh(), s.Batches(), s.Room(), m.count(), len(m.fresh), batches, m.sectors)
	}
}

func expectPooled(t *testing.T, s *shelf.Shelf, m *model, pool ...pooled) {
	t.Helper()
	for _, want := range pool {
		if !m.has(want.Object) {
			expectNoObject(t, s, want.id)
			continue
		}
		if o, e := s.Get(want.id); e != api.OK || encoding(o) != want.encoding {
			t.Fatalf("Get = %v, %d, want %v", o, e, want.Object)
		}
	}
}

// call makes one random call on a shelf and on the model, and compares the results.
func call(t *testing.T, r *rand.Rand, d *drum.Drum, s *shelf.Shelf, m *model, pool []pooled) {
	t.Helper()
	switch n := r.Intn(20); {
	case n < 12:
		o := pool[r.Intn(len(pool))]
		want, wantErrno := m.put(o)
		if id, e := s.Put(o.Object); id != want || e != wantErrno {
			t.Fatalf("Put = %x, %d, want %x, %d", id, e, want, wantErrno)
		}
	case n < 17:
		c := randomCell(r)
		want := m.commit(c)
		expectErrno(t, "Commit", s.Commit(c), want)
	case n < 19:
		want := len(m.fresh)
		m.fresh = nil
		if got := s.Drop(); got != want {
			t.Fatalf("Drop = %d, want %d", got, want)
		}
	default:
		if m.fuse == noFuse {
			m.fuse = r.Intn(30)
			expectErrno(t, "Arm", d.Arm(m.fuse), api.OK)
		}
	}
}

// reopen crashes and has the shelf contain what the model says, or one batch more.
func reopen(t *testing.T, r *rand.Rand, d *drum.Drum, m *model) *shelf.Shelf {
	t.Helper()
	keep := r.Perm(d.Loose())
	if r.Intn(2) == 0 {
		keep = keep[:r.Intn(len(keep)+1)]
	}
	if len(keep) == d.Loose() {
		m.batches = append(m.batches, m.pending...)
	}
	expectErrno(t, "Crash", d.Crash(keep), api.OK)
	m.fresh, m.pending, m.fuse, m.failed = nil, nil, noFuse, false
	m.sectors = d.Size()
	for _, record := range recordsOf(m.batches) {
		m.sectors -= tape.Need(len(record))
	}
	expectRecords(t, d, recordsOf(m.batches)...)
	return open(t, d, cellsOf(m.batches)...)
}

// failLast has the power fail during a last Commit, if it has not failed before.
func failLast(t *testing.T, r *rand.Rand, d *drum.Drum, s *shelf.Shelf, m *model) {
	t.Helper()
	if m.failed {
		return
	}
	last := batch{cell.Text("last"), m.fresh}
	m.fuse = r.Intn(last.calls())
	expectErrno(t, "Arm", d.Arm(m.fuse), api.OK)
	want := m.commit(last.c)
	expectErrno(t, "the last Commit", s.Commit(last.c), want)
}

func TestRandomCalls(t *testing.T) {
	pool := objectPool()
	lost, more := 0, 0
	for seed := range 60 {
		r := rand.New(rand.NewSource(int64(seed)))
		d := newDrum(t, 1+r.Intn(400))
		m := &model{sectors: d.Size(), fuse: noFuse}
		s := open(t, d)
		for range 6 {
			for range 40 {
				call(t, r, d, s, m, pool)
				expectModel(t, s, m)
				expectPooled(t, s, m, pool[r.Intn(len(pool))])
			}
			failLast(t, r, d, s, m)
			expectModel(t, s, m)
			expectPooled(t, s, m, pool...)
			before := len(m.batches)
			s = reopen(t, r, d, m)
			more += len(m.batches) - before
			lost += 1 - (len(m.batches) - before)
			expectModel(t, s, m)
			expectPooled(t, s, m, pool...)
		}
	}
	if lost < 50 || more < 10 {
		t.Errorf("%d crashes lost a batch or had none, %d kept one more", lost, more)
	}
}
