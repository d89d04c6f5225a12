package mtree_test

import (
	"slices"
	"strings"
	"testing"

	"fasti/api"
	"fasti/cell"
	"fasti/digest"
	"fasti/mtree"
	"fasti/radix"
	"fasti/shelf"
)

func TestExample(t *testing.T) {
	w := newWorld(t, 1)
	first, e := mtree.Save(w.Shelf, api.Trie{})
	if e != api.OK || first != digest.Sum("\x41\x04\x11\x01\x30\x40\x40") {
		t.Fatalf("Save = %x, %d", first, e)
	}
	id, e := mtree.Put(w.Shelf, first, "a", rows(1))
	if e != api.OK || id == first {
		t.Fatalf("Put = %x, %d", id, e)
	}
	if id, e = mtree.Put(w.Shelf, id, "a", nil); e != api.OK || id != first {
		t.Errorf("Put of no rows = %x, %d, want %x", id, e, first)
	}
}

// TestEncodings has the bytes of each node.
func TestEncodings(t *testing.T) {
	w := newWorld(t, 50)
	tree := api.Trie{Kids: []api.Trie{{Label: "ab", Kids: []api.Trie{{Label: "c", Rows: rows(7)}, {Label: "d", Rows: rows(8)}}}}}
	id, e := mtree.Save(w.Shelf, tree)
	expectErrno(t, "Save", e, api.OK)
	c := "\x41\x04\x11\x01\x31\x01c\x41\x01\x41\x03\x11\x01\x11\x05\x11\x07\x40"
	d := "\x41\x04\x11\x01\x31\x01d\x41\x01\x41\x03\x11\x01\x11\x05\x11\x08\x40"
	ab := "\x41\x04\x11\x01\x31\x02ab\x40\x41\x02\x41\x02\x11c\x31\x20" + digest.Sum(c) + "\x41\x02\x11d\x31\x20" + digest.Sum(d)
	root := "\x41\x04\x11\x01\x30\x40\x41\x01\x41\x02\x11a\x31\x20" + digest.Sum(ab)
	if id != digest.Sum(root) {
		t.Errorf("the id is %x, want %x", id, digest.Sum(root))
	}
	var want []string
	for _, s := range []string{c, d, ab, root} {
		want = append(want, digest.Sum(s))
	}
	var got []string
	for _, o := range w.stored(t) {
		got = append(got, idOf(o))
	}
	if !slices.Equal(got, want) {
		t.Errorf("the stored objects are %x, want %x", got, want)
	}
}

// TestSaveAndLoad has all trees of a few paths: first each on a shelf of its own,
// then all of them on one.
func TestSaveAndLoad(t *testing.T) {
	all := newWorld(t, 4096)
	there := map[string]bool{}
	for _, same := range []int{0, 1} {
		for _, m := range subsets(func(i int) int { return i * same }, "a", "ab", "abc", "b", "bc", "\x00", "a\xff") {
			w := newWorld(t, 50)
			expectTree(t, w, w.save(t, m), m, "a", "ab", "b", "abcd", "c", "", strings.Repeat("a", 25))
			expectObjects(t, "Save", w.stored(t), m.stored(map[string]bool{}))
			w.save(t, m)
			if w.Fresh() != 0 {
				t.Fatalf("Save of %v once more: %d objects are fresh", m, w.Fresh())
			}
			all.save(t, m)
			expectObjects(t, "Save", all.stored(t), m.stored(there))
			expectTree(t, all, m.id(), m)
		}
	}
}

// TestSaveBesideFreshObjects has them stay where they are.
func TestSaveBesideFreshObjects(t *testing.T) {
	w := newWorld(t, 50)
	leaf, other := node("b", rows(1)), node("other", nil)
	w.put(t, leaf, other)
	m := model{"a": 1, "b": 1, "c": 1}
	w.save(t, m)
	expectObjects(t, "Save", w.stored(t), []api.Object{leaf, other, node("a", rows(1)), node("c", rows(1)), m.objects()[""]})
}

// TestSaveOfRows has as many rows, and kids, as there may be, and a path as long.
func TestSaveOfRows(t *testing.T) {
	w := newWorld(t, 1)
	u := api.Trie{Kids: []api.Trie{{Label: strings.Repeat("a", 12), Rows: manyRows(64), Kids: []api.Trie{{Label: strings.Repeat("b", 12), Rows: rows(1)}}}}}
	for i := int('b'); i < 256; i++ {
		u.Kids = append(u.Kids, api.Trie{Label: string([]byte{byte(i)}), Rows: manyRows(1)})
	}
	id, e := mtree.Save(w.Shelf, u)
	expectErrno(t, "Save", e, api.OK)
	v, e := mtree.Load(w.Shelf, id)
	if e != api.OK || !sameTree(u, v) {
		t.Errorf("Load = %v, %d, want %v", v, e, u)
	}
	if l, e := mtree.Get(w.Shelf, id, strings.Repeat("a", 12)); e != api.OK || !slices.Equal(l, manyRows(64)) {
		t.Errorf("Get = %v, %d", l, e)
	}
}

func TestSaveRefuses(t *testing.T) {
	leaf := func(label string) api.Trie { return api.Trie{Label: label, Rows: rows(1)} }
	inItself := make([]api.Trie, 1)
	inItself[0] = api.Trie{Label: "a", Rows: rows(1), Kids: inItself}
	w := newWorld(t, 1)
	w.put(t, node("x", rows(1)))
	for what, u := range map[string]api.Trie{
		"root with a label":     leaf(""),
		"root with rows":        {Rows: rows(1)},
		"kid without a label":   {Kids: []api.Trie{leaf("")}},
		"kid without rows":      {Kids: []api.Trie{leaf("a"), {Label: "b"}}},
		"kid with one kid":      {Kids: []api.Trie{leaf("a"), {Label: "b", Kids: []api.Trie{leaf("c")}}}},
		"kids with one byte":    {Kids: []api.Trie{leaf("ab"), leaf("ac")}},
		"kids in other order":   {Kids: []api.Trie{leaf("b"), leaf("a")}},
		"row of no time":        {Kids: []api.Trie{leaf("a"), {Label: "b", Rows: []api.Row{{From: 1, To: 1, V: num(1)}}}}},
		"65 rows":               {Kids: []api.Trie{leaf("a"), {Label: "b", Rows: manyRows(65)}}},
		"path of 25 bytes":      {Kids: []api.Trie{leaf("a"), leaf(strings.Repeat("b", 25))}},
		"path of 13 bytes + 12": {Kids: []api.Trie{{Label: strings.Repeat("a", 13), Rows: rows(1), Kids: []api.Trie{leaf(strings.Repeat("b", 12))}}}},
		"tree in itself":        {Kids: inItself},
	} {
		if id, e := mtree.Save(w.Shelf, u); id != "" || e != api.ErrArg || w.Len() != 1 || w.Fresh() != 1 {
			t.Errorf("%s: Save = %x, %d, and there are %d objects, %d of them fresh", what, id, e, w.Len(), w.Fresh())
		}
		if id, e := mtree.Save(nil, u); id != "" || e != api.ErrNil {
			t.Errorf("%s: Save on no shelf = %x, %d", what, id, e)
		}
	}
}

func TestNilAndZeroShelf(t *testing.T) {
	for what, s := range map[string]*shelf.Shelf{"nil": nil, "zero": {}} {
		for range 2 {
			for _, id := range []string{"", idOf(node("", nil)), "none"} {
				expectRefused(t, what, world{s, nil}, id, api.ErrNil)
			}
			if id, e := mtree.Save(s, api.Trie{}); id != "" || e != api.ErrNil {
				t.Errorf("%s: Save = %x, %d", what, id, e)
			}
		}
	}
}

// wrongTrees returns trees that cannot be read, each with its first error. Below a
// node that may not stand where it does, or is not there, nothing is looked at.
func wrongTrees() map[string]wrongTree {
	none := strings.Repeat("\x00", 32)
	leaf, mid := node("b", rows(1)), node("m", rows(1), api.Kid{First: 'a', Id: none})
	commit := api.Object{Kind: api.OCommit, Root: idOf(leaf)}
	one := node("o", nil, kid(leaf))
	rest, long := node(strings.Repeat("r", 13), rows(1)), node(strings.Repeat("l", 24), rows(1))
	deep := node("d"+strings.Repeat("e", 11), rows(1), kid(rest))
	at := func(first byte, o api.Object) api.Kid { return api.Kid{First: first, Id: idOf(o)} }
	return map[string]wrongTree{
		"no kid":                          {api.ErrNone, []api.Object{node("", nil, api.Kid{First: 'b', Id: none})}},
		"no kid behind one":               {api.ErrNone, []api.Object{leaf, node("", nil, kid(leaf), api.Kid{First: 'c', Id: none})}},
		"no kid further below":            {api.ErrNone, []api.Object{leaf, mid, node("", nil, kid(leaf), kid(mid))}},
		"no kid before another error":     {api.ErrNone, []api.Object{leaf, mid, node("", nil, kid(mid), at('n', leaf))}},
		"no kid behind another error":     {api.ErrFormat, []api.Object{leaf, mid, node("", nil, at('a', leaf), kid(mid))}},
		"no kid below a wrong one":        {api.ErrFormat, []api.Object{mid, node("", nil, at('a', mid))}},
		"no kid below a wrong root":       {api.ErrFormat, []api.Object{mid}},
		"root with a label":               {api.ErrFormat, []api.Object{leaf, node("a", nil, kid(leaf))}},
		"root with rows":                  {api.ErrFormat, []api.Object{leaf, node("", rows(1), kid(leaf))}},
		"root that is a leaf":             {api.ErrFormat, []api.Object{leaf}},
		"root that is a commit":           {api.ErrFormat, []api.Object{leaf, commit}},
		"kid that is a commit":            {api.ErrFormat, []api.Object{leaf, commit, node("", nil, at('b', commit))}},
		"kid that is a root":              {api.ErrFormat, []api.Object{node("", nil), node("", nil, at('b', node("", nil)))}},
		"kid without a label":             {api.ErrFormat, []api.Object{node("", rows(1)), node("", nil, at(0, node("", rows(1))))}},
		"kid with another first byte":     {api.ErrFormat, []api.Object{leaf, node("", nil, at('c', leaf))}},
		"kid twice":                       {api.ErrFormat, []api.Object{leaf, node("", nil, at('b', leaf), at('c', leaf))}},
		"kid without rows":                {api.ErrFormat, []api.Object{node("b", nil), node("", nil, kid(node("b", nil)))}},
		"kid without rows and one kid":    {api.ErrFormat, []api.Object{leaf, one, node("", nil, kid(one))}},
		"path of 25 bytes":                {api.ErrFormat, []api.Object{rest, deep, node("", nil, kid(deep))}},
		"path of 25 bytes below 24":       {api.ErrFormat, []api.Object{leaf, node(strings.Repeat("l", 24), rows(1), kid(leaf)), node("", nil, kid(node(strings.Repeat("l", 24), rows(1), kid(leaf))))}},
		"path of 25 bytes by a long kid":  {api.ErrFormat, []api.Object{long, node("x", rows(1), kid(long)), node("", nil, kid(node("x", rows(1), kid(long))))}},
		"wrong kid below a wrong one":     {api.ErrFormat, []api.Object{leaf, node("w", nil, at('x', leaf)), node("", nil, kid(node("w", nil, at('x', leaf))))}},
		"wrong kid, and none behind":      {api.ErrFormat, []api.Object{leaf, node("", nil, at('a', leaf), api.Kid{First: 'b', Id: none})}},
		"none, and a wrong kid behind":    {api.ErrNone, []api.Object{leaf, node("", nil, api.Kid{First: 'a', Id: none}, at('c', leaf))}},
		"commit where no kid's kid is":    {api.ErrFormat, []api.Object{commit, node("k", rows(1), at('b', commit)), node("", nil, kid(node("k", rows(1), at('b', commit))), api.Kid{First: 'l', Id: none})}},
		"wrong kid below a kid, and none": {api.ErrNone, []api.Object{leaf, node("k", rows(1), api.Kid{First: 'a', Id: none}, at('c', leaf)), node("", nil, kid(node("k", rows(1), api.Kid{First: 'a', Id: none}, at('c', leaf))))}},
	}
}

// wrongTree is a tree by its objects, the last of which is the root.
type wrongTree struct {
	e       api.Errno
	objects []api.Object
}

func TestWrongTrees(t *testing.T) {
	w := newWorld(t, 4096)
	for what, c := range wrongTrees() {
		id := w.put(t, c.objects...)
		expectRefused(t, what, w, id, c.e)
		w.stored(t)
		expectRefused(t, what+", in a batch", w, id, c.e)
	}
	empty := w.put(t, node("", nil))
	for _, id := range []string{"", "none", empty[:31], empty + "a", digest.Hex(empty), strings.Repeat("\x00", 32)} {
		expectRefused(t, "no id", w, id, api.ErrNone)
	}
}

// TestEdgesOfTrees has trees that are nearly wrong.
func TestEdgesOfTrees(t *testing.T) {
	w := newWorld(t, 1)
	a, b := node("a", rows(1)), node("b", rows(1))
	fork, short := node("f", nil, kid(a), kid(b)), node("s", rows(1), kid(a))
	half := node(strings.Repeat("i", 12), rows(1))
	deep := node(strings.Repeat("h", 12), rows(1), kid(half))
	w.put(t, a, b, fork, short, half, deep)
	for want, root := range map[string]api.Object{
		"":               node("", nil),
		"a":              node("", nil, kid(a)),
		"fa fb":          node("", nil, kid(fork)),
		"s sa":           node("", nil, kid(short)),
		"a b fa fb s sa": node("", nil, kid(a), kid(b), kid(fork), kid(short)),
		"hhhhhhhhhhhh " + "hhhhhhhhhhhhiiiiiiiiiiii": node("", nil, kid(deep)),
	} {
		l, e := mtree.Under(w.Shelf, w.put(t, root), "")
		var paths []string
		for _, x := range l {
			paths = append(paths, x.Path)
		}
		if e != api.OK || strings.Join(paths, " ") != want {
			t.Errorf("Under of %v = %q, %d, want %s", root, paths, e, want)
		}
	}
}

// TestSharedNodes has a tree of 8190 paths on a shelf with 25 objects.
func TestSharedNodes(t *testing.T) {
	w := newWorld(t, 100)
	var kids []api.Kid
	for range 12 {
		a, b := node("a", rows(1), kids...), node("b", rows(1), kids...)
		w.put(t, a, b)
		kids = []api.Kid{kid(a), kid(b)}
	}
	id := w.put(t, node("", nil, kids...))
	u, e := mtree.Load(w.Shelf, id)
	if e != api.OK || radix.Nodes(u) != 8191 || w.Len() != 25 {
		t.Fatalf("Load: error %d, %d nodes", e, radix.Nodes(u))
	}
	again := newWorld(t, 100)
	root, e := mtree.Save(again.Shelf, u)
	if e != api.OK || root != id || again.Len() != 25 {
		t.Errorf("Save = %x, %d, and there are %d objects", root, e, again.Len())
	}
	path := strings.Repeat("ab", 6)
	changed, e := mtree.Put(w.Shelf, id, path, rows(2))
	if e != api.OK || w.Len() != 25+13 {
		t.Errorf("Put: error %d, there are %d objects", e, w.Len())
	}
	l, reads, e := mtree.Diff(w.Shelf, id, changed)
	want := []api.Change{{Path: path, Had: rows(1), Now: rows(2)}}
	if e != api.OK || !sameChanges(l, want) || reads != 26 {
		t.Errorf("Diff = %v, %d, %d", l, reads, e)
	}
}

func TestPut(t *testing.T) {
	w := newWorld(t, 4096)
	there := map[string]bool{}
	m := model{"abc": 1, "abd": 2, "x": 3}
	w.save(t, m)
	expectObjects(t, "Save", w.stored(t), m.stored(there))
	for _, c := range []struct {
		path  string
		n     int // below 0: no rows
		fresh int
	}{
		{"abc", 11, 3}, {"x", 12, 2}, {"ab", 13, 2}, {"a", 14, 3}, {"abce", 15, 4}, {"y", 16, 2}, {"ac", 17, 3},
		{"abc", 1, 0}, {"none", -1, 0}, {"ab", -1, 0}, {"x", -1, 1}, {"abc", -1, 2},
	} {
		next, l := m.without(c.path), []api.Row{}
		if c.n >= 0 {
			next, l = m.with(c.path, c.n), rows(c.n)
		}
		id, e := mtree.Put(w.Shelf, m.id(), c.path, l)
		expectErrno(t, "Put", e, api.OK)
		if w.Fresh() != c.fresh {
			t.Errorf("Put(%q, %v): %d objects are fresh, want %d", c.path, l, w.Fresh(), c.fresh)
		}
		expectObjects(t, "Put of "+c.path, w.stored(t), next.stored(there))
		expectTree(t, w, id, next, "abc", "abd", "ab", "x", "a", "none")
	}
}

func TestPutRefuses(t *testing.T) {
	w := newWorld(t, 1)
	id := w.save(t, model{"a": 1})
	length := w.Len()
	long := strings.Repeat("a", 25)
	for _, path := range []string{"a", "ab", "b", "", long} {
		for what, l := range map[string][]api.Row{
			"rows":            rows(1),
			"no rows":         nil,
			"row of no time":  {{From: 1, To: 1, V: num(1)}},
			"no value":        {{From: 1, To: 2}},
			"65 rows":         manyRows(65),
			"rows in a wrong": {{From: 3, To: 4, V: num(1)}, {From: 1, To: 2, V: num(1)}},
		} {
			if path != "" && path != long && (what == "rows" || what == "no rows") {
				continue
			}
			if root, e := mtree.Put(w.Shelf, id, path, l); root != "" || e != api.ErrArg {
				t.Errorf("Put(%q) of %s = %x, %d, want %d", path, what, root, e, api.ErrArg)
			}
		}
	}
	if w.Len() != length {
		t.Errorf("there are %d objects, want %d", w.Len(), length)
	}
}

// TestBatches has trees be there as long as their objects are.
func TestBatches(t *testing.T) {
	w := newWorld(t, 100)
	first, second := model{"abc": 1, "abd": 2}, model{"abc": 1, "abd": 3}
	w.save(t, first)
	w.stored(t)
	w.save(t, second)
	expectDiff(t, w, first, second)
	w.Drop()
	expectTree(t, w, first.id(), first)
	expectRefused(t, "dropped", w, second.id(), api.ErrNone)
	w.Drop()
	w.save(t, second)
	w.stored(t)
	s, _, e := shelf.Open(w.d)
	expectErrno(t, "Open", e, api.OK)
	again := world{s, w.d}
	expectTree(t, again, first.id(), first)
	expectTree(t, again, second.id(), second)
	expectDiff(t, again, first, second)
}

// TestNoDrum has no function write anything, or need the power.
func TestNoDrum(t *testing.T) {
	w := newWorld(t, 100)
	w.save(t, model{"b": 2})
	w.stored(t)
	expectErrno(t, "Arm", w.d.Arm(0), api.OK)
	m := model{"b": 2, "ab": 1}
	id, e := mtree.Put(w.Shelf, model{"b": 2}.id(), "ab", rows(1))
	expectErrno(t, "Put", e, api.OK)
	expectTree(t, w, id, m, "ab")
	expectDiff(t, w, model{"b": 2}, m)
	if w.d.Down() || w.d.Loose() != 0 || w.Batches() != 1 {
		t.Errorf("Down = %v, Loose = %d, Batches = %d", w.d.Down(), w.d.Loose(), w.Batches())
	}
	expectErrno(t, "Commit", w.Commit(cell.Num(2)), api.ErrDown)
	expectRefused(t, "lost", w, m.id(), api.ErrNone)
	expectTree(t, w, model{"b": 2}.id(), model{"b": 2})
}
