package mtree_test

import (
	"strings"
	"testing"

	"fasti/api"
	"fasti/mtree"
)

func TestDiff(t *testing.T) {
	w := newWorld(t, 1)
	a, b := model{"ab": 1, "abc": 2, "abd": 3, "x": 4}, model{"abc": 2, "abd": 5, "ac": 6, "x": 4}
	w.save(t, a)
	w.save(t, b)
	want := []api.Change{{Path: "ab", Had: rows(1)}, {Path: "abd", Had: rows(3), Now: rows(5)}, {Path: "ac", Now: rows(6)}}
	// The roots, ab and d on one side, a, b, d and c on the other one: c below ab and x are shared.
	if l, reads, e := mtree.Diff(w.Shelf, a.id(), b.id()); e != api.OK || !sameChanges(l, want) || reads != 8 {
		t.Errorf("Diff = %v, %d, %d, want %v, 8", l, reads, e, want)
	}
	if l, reads, e := mtree.Diff(w.Shelf, a.id(), a.id()); e != api.OK || len(l) != 0 || reads != 0 {
		t.Errorf("Diff of a tree and itself = %v, %d, %d", l, reads, e)
	}
}

// TestDiffOfAllPairs has paths that end alike, so that trees have the same nodes in
// different places, and labels that differ in length.
func TestDiffOfAllPairs(t *testing.T) {
	same := func(int) int { return 1 }
	own := func(i int) int { return i }
	for _, l := range [][]model{
		subsets(same, "a", "aa", "aaa", "aaaa", "aaaaa"),
		subsets(same, "a", "ab", "abab", "ababab", "b", "bab"),
		subsets(own, "\x00", "a", "ab", "abc", "abd"),
		append(subsets(same, "a", "aa", "aaa", "ab"), subsets(own, "a", "aa", "aaa", "ab")...),
	} {
		w := newWorld(t, 1)
		for _, m := range l {
			w.save(t, m)
		}
		for _, a := range l {
			for _, b := range l {
				expectDiff(t, w, a, b)
			}
		}
	}
}

func TestReplayOfAllPairs(t *testing.T) {
	w := newWorld(t, 1)
	l := append(subsets(func(int) int { return 1 }, "a", "aa", "aaa", "aab"), subsets(func(i int) int { return i }, "a", "aa", "aaa", "aab")...)
	for _, m := range l {
		w.save(t, m)
	}
	for _, a := range l {
		for _, b := range l {
			expectReplay(t, w, a, b)
		}
	}
}

// TestIds has trees with different contents have different ids.
func TestIds(t *testing.T) {
	w := newWorld(t, 1)
	ids := map[string]int{}
	l := subsets(func(int) int { return 1 }, "a", "aa", "aaa", "ab", "b", "ba", "bb", "c")
	for i, m := range l {
		id := w.save(t, m)
		if j, found := ids[id]; found {
			t.Fatalf("%v and %v have the same id", m, l[j])
		}
		ids[id] = i
	}
}

// TestDiffErrors has each tree be read wholly before the other one, also where both
// have the same part, or are the same tree.
func TestDiffErrors(t *testing.T) {
	w := newWorld(t, 1)
	good := w.save(t, model{"a": 1, "b": 2})
	leaf := node("b", rows(2))
	missing := api.Kid{First: 'a', Id: strings.Repeat("m", 32)}
	wrong := api.Kid{First: 'a', Id: idOf(leaf)}
	none, format := w.put(t, node("", nil, missing)), w.put(t, node("", nil, wrong))
	noneToo, formatToo := w.put(t, node("", nil, missing, kid(leaf))), w.put(t, node("", nil, wrong, kid(leaf)))
	for _, c := range []struct {
		a, b string
		want api.Errno
	}{
		{none, good, api.ErrNone}, {good, none, api.ErrNone}, {none, none, api.ErrNone}, {none, noneToo, api.ErrNone},
		{format, good, api.ErrFormat}, {good, format, api.ErrFormat}, {format, format, api.ErrFormat}, {format, formatToo, api.ErrFormat},
		{none, format, api.ErrNone}, {format, none, api.ErrFormat}, {noneToo, "", api.ErrNone}, {"", formatToo, api.ErrNone},
		{"", "", api.ErrNone}, {good, "", api.ErrNone}, {"", good, api.ErrNone}, {formatToo, "", api.ErrFormat},
	} {
		if l, reads, e := mtree.Diff(w.Shelf, c.a, c.b); len(l) != 0 || reads != 0 || e != c.want {
			t.Errorf("Diff(%x, %x) = %v, %d, %d, want %d", c.a, c.b, l, reads, e, c.want)
		}
	}
}

// TestDiffOfLargeTrees has a tree of thousands of paths, and few reads for one of
// them.
func TestDiffOfLargeTrees(t *testing.T) {
	w := newWorld(t, 1)
	m := model{}
	for i := range 3000 {
		m[string([]byte{byte('a' + i%20), byte('a' + i/20%20), byte('a' + i/400)})] = i
	}
	id := w.save(t, m)
	for _, path := range []string{"aaa", "tth", "jjjj", "j", "zz"} {
		changed, e := mtree.Put(w.Shelf, id, path, rows(-1))
		expectErrno(t, "Put", e, api.OK)
		l, reads, e := mtree.Diff(w.Shelf, id, changed)
		want := []api.Change{{Path: path, Had: m.rows(path), Now: rows(-1)}}
		if e != api.OK || !sameChanges(l, want) || reads > 10 {
			t.Errorf("Diff for %q = %v, %d, %d", path, l, reads, e)
		}
	}
}
