package mtree_test

import (
	"slices"
	"testing"

	"fasti/api"
	"fasti/mtree"
	"fasti/radix"
)

var (
	markRow  = api.Row{From: -7, To: -7}
	markTrie = api.Trie{Label: "mark"}
)

// roomy returns a copy of the slice with spare capacity, which holds a mark.
func roomy[T any](l []T, mark T) []T {
	return append(slices.Clone(l), mark, mark)[:len(l)]
}

func roomyTrie(t api.Trie) api.Trie {
	u := api.Trie{Label: t.Label, Rows: roomy(t.Rows, markRow), Kids: roomy(t.Kids, markTrie)}
	for i, k := range u.Kids {
		u.Kids[i] = roomyTrie(k)
	}
	return u
}

func isRoomyRows(l, want []api.Row) bool {
	return slices.Equal(l[:len(l)+2], append(slices.Clone(want), markRow, markRow))
}

// isRoomyTrie reports whether nothing has been changed in a tree of roomyTrie, nor in
// its spare capacity.
func isRoomyTrie(u, want api.Trie) bool {
	if u.Label != want.Label || !isRoomyRows(u.Rows, want.Rows) || !slices.EqualFunc(u.Kids, want.Kids, isRoomyTrie) {
		return false
	}
	for _, k := range u.Kids[len(u.Kids) : len(u.Kids)+2] {
		if !sameTree(k, markTrie) {
			return false
		}
	}
	return true
}

// spoilRows and the others overwrite all memory of a result.
func spoilRows(l []api.Row) {
	l = l[:cap(l)]
	for i := range l {
		l[i] = api.Row{From: -9, To: -9}
	}
}

func spoilTrie(t api.Trie) {
	spoilRows(t.Rows)
	for _, k := range t.Kids {
		spoilTrie(k)
	}
	kids := t.Kids[:cap(t.Kids)]
	for i := range kids {
		kids[i] = api.Trie{Label: "spoilt"}
	}
}

// TestMemory has no call change an argument, and no result share memory with one or
// with the shelf.
func TestMemory(t *testing.T) {
	w := newWorld(t, 1)
	m, next := model{"a": 1, "ax": 2, "b": 1, "bx": 2}, model{"a": 3, "bx": 2, "c": 4}
	u, _ := radix.Build(m.entries())
	tree, list := roomyTrie(u), roomy(rows(4), markRow)
	w.save(t, next)
	for range 2 {
		id, e := mtree.Save(w.Shelf, tree)
		expectErrno(t, "Save", e, api.OK)
		if !isRoomyTrie(tree, u) {
			t.Fatalf("Save changes its tree to %v", tree)
		}
		if _, e := mtree.Put(w.Shelf, id, "c", list); e != api.OK || !isRoomyRows(list, rows(4)) {
			t.Fatalf("Put changes its rows to %v, %d", list, e)
		}
		expectTree(t, w, id, m, "a", "ax", "b", "bx", "")
		expectDiff(t, w, m, next)
		spoilTree(t, w, id)
		spoilLists(t, w, id, next.id())
		expectTree(t, w, id, m, "a", "ax", "b", "bx", "")
		expectDiff(t, w, m, next)
	}
	spoilTrie(tree)
	spoilRows(list)
	expectTree(t, w, m.id(), m)
	expectTree(t, w, m.with("c", 4).id(), m.with("c", 4))
}

// spoilTree spoils one part of a loaded tree after the other: the rest remains.
func spoilTree(t *testing.T, w world, id string) {
	t.Helper()
	u, e := mtree.Load(w.Shelf, id)
	expectErrno(t, "Load", e, api.OK)
	for i := range u.Kids {
		again, _ := mtree.Load(w.Shelf, id)
		if !sameTree(u.Kids[i], again.Kids[i]) {
			t.Fatalf("kid %d is %v: an earlier one shares memory with it", i, u.Kids[i])
		}
		kids := u.Kids[i].Kids[:cap(u.Kids[i].Kids)]
		for j := len(u.Kids[i].Kids); j < len(kids); j++ {
			kids[j] = markTrie
		}
		spoilTrie(u.Kids[i])
	}
	spoilTrie(u)
}

// spoilLists does the same with the lists of the other functions.
func spoilLists(t *testing.T, w world, id, next string) {
	t.Helper()
	l, e := mtree.Under(w.Shelf, id, "")
	expectErrno(t, "Under", e, api.OK)
	again, _ := mtree.Under(w.Shelf, id, "")
	for i := range l {
		if !sameEntries(l[i:], again[i:]) {
			t.Fatalf("the entries %v share memory with an earlier one", l[i:])
		}
		spoilRows(l[i].Rows)
	}
	found, e := mtree.Get(w.Shelf, id, "ax")
	expectErrno(t, "Get", e, api.OK)
	spoilRows(found)
	changes, _, e := mtree.Diff(w.Shelf, id, next)
	expectErrno(t, "Diff", e, api.OK)
	whole, _, _ := mtree.Diff(w.Shelf, id, next)
	for i, c := range changes {
		spoilRows(c.Had)
		if !slices.Equal(c.Now, whole[i].Now) {
			t.Fatalf("Now of %q shares memory with Had", c.Path)
		}
		spoilRows(c.Now)
		if !sameChanges(changes[i+1:], whole[i+1:]) {
			t.Fatalf("the changes %v share memory with an earlier one", changes[i+1:])
		}
	}
}
