package mtree_test

import (
	"maps"
	"math/rand"
	"slices"
	"strings"
	"testing"

	"fasti/api"
	"fasti/mtree"
	"fasti/radix"
)

// model is what a tree contains, plainly: the number of each path's rows.
type model map[string]int

func (m model) with(path string, n int) model {
	m = maps.Clone(m)
	m[path] = n
	return m
}

func (m model) without(path string) model {
	m = maps.Clone(m)
	delete(m, path)
	return m
}

func (m model) rows(path string) []api.Row {
	if n, found := m[path]; found {
		return rows(n)
	}
	return nil
}

func (m model) entries() []api.Entry { return m.under("") }

func (m model) under(prefix string) []api.Entry {
	var l []api.Entry
	for _, p := range slices.Sorted(maps.Keys(m)) {
		if len(p) >= len(prefix) && p[:len(prefix)] == prefix {
			l = append(l, api.Entry{Path: p, Rows: rows(m[p])})
		}
	}
	return l
}

// isNode reports whether the path is that of a node: of the root, or one that has
// rows or goes on in two ways.
func (m model) isNode(path string) bool {
	next := map[byte]bool{}
	for p := range m {
		if len(p) > len(path) && p[:len(path)] == path {
			next[p[len(path)]] = true
		}
	}
	_, hasRows := m[path]
	return path == "" || hasRows || len(next) > 1
}

// above returns the longest path of a node that a path continues.
func (m model) above(path string) string {
	end := len(path) - 1
	for !m.isNode(path[:end]) {
		end--
	}
	return path[:end]
}

// nodePaths returns those of all nodes, each behind those of its kids.
func (m model) nodePaths() []string {
	found := map[string]bool{"": true}
	for p := range m {
		for end := range len(p) + 1 {
			if m.isNode(p[:end]) {
				found[p[:end]] = true
			}
		}
	}
	l := slices.Collect(maps.Keys(found))
	slices.SortFunc(l, func(a, b string) int {
		switch {
		case strings.HasPrefix(a, b):
			return len(b) - len(a)
		case strings.HasPrefix(b, a):
			return len(b) - len(a)
		}
		return strings.Compare(a, b)
	})
	return l
}

// objects returns the nodes by their paths.
func (m model) objects() map[string]api.Object {
	kids := map[string][]api.Kid{}
	l := map[string]api.Object{}
	for _, p := range m.nodePaths() {
		if p == "" {
			l[p] = node("", nil, kids[p]...)
			continue
		}
		above := m.above(p)
		l[p] = node(p[len(above):], m.rows(p), kids[p]...)
		kids[above] = append(kids[above], kid(l[p]))
	}
	return l
}

// stored returns the nodes in the order in which they are stored, each once, but not
// those that are there already.
func (m model) stored(there map[string]bool) []api.Object {
	var l []api.Object
	objects := m.objects()
	for _, p := range m.nodePaths() {
		if id := idOf(objects[p]); !there[id] {
			there[id] = true
			l = append(l, objects[p])
		}
	}
	return l
}

// id is that of the root.
func (m model) id() string { return idOf(m.objects()[""]) }

func (m model) changes(other model) []api.Change {
	all := maps.Clone(m)
	maps.Copy(all, other)
	var l []api.Change
	for _, p := range slices.Sorted(maps.Keys(all)) {
		if had, now := m.rows(p), other.rows(p); !slices.Equal(had, now) {
			l = append(l, api.Change{Path: p, Had: had, Now: now})
		}
	}
	return l
}

// unshared returns the number of nodes that do not stand in the same place of the
// other tree with all below them, alone or below such a node.
func (m model) unshared(other model) int {
	places := func(m model) map[[2]string]bool {
		l := map[[2]string]bool{}
		for p, o := range m.objects() {
			if p == "" {
				l[[2]string{"root", idOf(o)}] = true
			} else {
				l[[2]string{"below " + m.above(p), idOf(o)}] = true
			}
		}
		return l
	}
	count := 0
	// What is in a shared part is shared itself.
	for place := range places(m) {
		if !places(other)[place] {
			count++
		}
	}
	return count
}

// expectTree has a tree on a shelf be that of a model.
func expectTree(t *testing.T, w world, id string, m model, words ...string) {
	t.Helper()
	if id != m.id() {
		t.Fatalf("the id of %v is %x, want %x", m, id, m.id())
	}
	u, e := mtree.Load(w.Shelf, id)
	if e != api.OK || radix.Check(u) != api.OK || !sameEntries(radix.Entries(u), m.entries()) || radix.Nodes(u) != len(m.nodePaths()) {
		t.Fatalf("Load of %v = %v, %d", m, u, e)
	}
	for _, p := range words {
		if l, e := mtree.Get(w.Shelf, id, p); e != api.OK || !slices.Equal(l, m.rows(p)) {
			t.Fatalf("Get(%q) of %v = %v, %d", p, m, l, e)
		}
		if l, e := mtree.Under(w.Shelf, id, p); e != api.OK || !sameEntries(l, m.under(p)) {
			t.Fatalf("Under(%q) of %v = %v, %d", p, m, l, e)
		}
	}
}

// expectDiff has Diff of two trees tell all changes, and read what they do not share.
func expectDiff(t *testing.T, w world, a, b model) {
	t.Helper()
	l, reads, e := mtree.Diff(w.Shelf, a.id(), b.id())
	if e != api.OK || !sameChanges(l, a.changes(b)) {
		t.Fatalf("Diff of %v and %v = %v, %d, want %v", a, b, l, e, a.changes(b))
	}
	if want := a.unshared(b) + b.unshared(a); reads != want || reads > len(a.nodePaths())+len(b.nodePaths()) {
		t.Fatalf("Diff of %v and %v reads %d objects, want %d", a, b, reads, want)
	}
}

// subsets returns the models of all sets of these paths, all with rows by a function
// of the paths' places.
func subsets(n func(i int) int, paths ...string) []model {
	var l []model
	for set := range 1 << len(paths) {
		m := model{}
		for i, p := range paths {
			if set>>i&1 == 1 {
				m[p] = n(i)
			}
		}
		l = append(l, m)
	}
	return l
}

// randomPath returns one of few bytes, sometimes a long one, so that paths share
// beginnings and ends of each length.
func randomPath(r *rand.Rand) string {
	letters := []byte{0, 'a', 'b', 0xff}
	length := 1 + r.Intn(4)
	if r.Intn(5) == 0 {
		length = 20 + r.Intn(5)
	}
	b := []byte(strings.Repeat("a", length))
	for range r.Intn(4) {
		b[r.Intn(length)] = letters[r.Intn(len(letters))]
	}
	return string(b)
}

// somePath returns a path of the model, or another one.
func somePath(r *rand.Rand, m model) string {
	known := slices.Sorted(maps.Keys(m))
	if len(known) == 0 || r.Intn(2) == 0 {
		return randomPath(r)
	}
	return known[r.Intn(len(known))]
}

func randomModel(r *rand.Rand) model {
	m := model{}
	for range r.Intn(20) {
		m[randomPath(r)] = r.Intn(3)
	}
	return m
}

// change puts rows under some path, or takes them out, and has what is stored be
// what the shelf did not contain.
func change(t *testing.T, r *rand.Rand, w world, m model, there map[string]bool) model {
	t.Helper()
	path := somePath(r, m)
	next, l := m.without(path), []api.Row(nil)
	if r.Intn(5) > 1 {
		n := r.Intn(3)
		next, l = m.with(path, n), rows(n)
	}
	id, e := mtree.Put(w.Shelf, m.id(), path, l)
	expectErrno(t, "Put", e, api.OK)
	want := next.stored(there)
	if w.Fresh() != len(want) {
		t.Fatalf("Put(%q, %v) of %v: %d objects are fresh, want %d", path, l, m, w.Fresh(), len(want))
	}
	expectObjects(t, "Put", w.stored(t), want)
	expectTree(t, w, id, next, path, randomPath(r), "", path[:len(path)-1], path+"a")
	expectDiff(t, w, m, next)
	return next
}

// TestRandomCalls goes from tree to tree, and compares distant ones.
func TestRandomCalls(t *testing.T) {
	for seed := range 30 {
		r := rand.New(rand.NewSource(int64(seed)))
		w := newWorld(t, 4096)
		m := model{}
		there := map[string]bool{}
		w.save(t, m)
		expectObjects(t, "Save", w.stored(t), m.stored(there))
		past := []model{m}
		for range 40 {
			m = change(t, r, w, m, there)
			past = append(past, m)
			expectDiff(t, w, past[r.Intn(len(past))], past[r.Intn(len(past))])
		}
	}
}

// TestRandomTrees compares trees that do not follow one from the other.
func TestRandomTrees(t *testing.T) {
	for seed := range 200 {
		r := rand.New(rand.NewSource(int64(seed)))
		w := newWorld(t, 1)
		a, b := randomModel(r), randomModel(r)
		w.save(t, a)
		w.save(t, b)
		expectDiff(t, w, a, b)
		expectReplay(t, w, a, b)
	}
}

// expectReplay has the changes from one tree to another one lead to its id.
func expectReplay(t *testing.T, w world, a, b model) {
	t.Helper()
	l, _, e := mtree.Diff(w.Shelf, a.id(), b.id())
	expectErrno(t, "Diff", e, api.OK)
	id := a.id()
	for _, c := range l {
		id, e = mtree.Put(w.Shelf, id, c.Path, c.Now)
		expectErrno(t, "Put", e, api.OK)
	}
	if id != b.id() {
		t.Fatalf("the changes %v from %v to %v lead to %x, want %x", l, a, b, id, b.id())
	}
}

// TestCanonicalIds reaches the same contents by different Puts, with detours, on
// different shelves.
func TestCanonicalIds(t *testing.T) {
	for seed := range 60 {
		r := rand.New(rand.NewSource(int64(seed)))
		m := randomModel(r)
		l := m.entries()
		for range 3 {
			w := newWorld(t, 1)
			id := w.save(t, randomModel(r))
			u, _ := mtree.Load(w.Shelf, id)
			r.Shuffle(len(l), func(i, j int) { l[i], l[j] = l[j], l[i] })
			for _, p := range append(radix.Entries(u), l...) {
				id, _ = mtree.Put(w.Shelf, id, p.Path, rows(r.Intn(9)))
			}
			for _, p := range append(radix.Entries(u), l...) {
				id, _ = mtree.Put(w.Shelf, id, p.Path, m.rows(p.Path))
			}
			expectTree(t, w, id, m)
			if id != w.save(t, m) {
				t.Fatalf("Save of %v has not the id %x", m, id)
			}
		}
	}
}
