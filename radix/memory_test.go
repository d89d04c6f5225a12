package radix_test

import (
	"slices"
	"testing"

	"fasti/api"
	"fasti/radix"
)

// roomy returns a copy of the slice with spare capacity, which holds a mark.
func roomy[T any](l []T, mark T) []T {
	return append(slices.Clone(l), mark, mark, mark)[:len(l)]
}

var (
	markRow   = api.Row{From: -7, To: -7}
	markEntry = api.Entry{Path: "mark"}
	markTrie  = api.Trie{Label: "mark"}
)

func roomyTrie(t api.Trie) api.Trie {
	u := api.Trie{Label: t.Label, Rows: roomy(t.Rows, markRow), Kids: roomy(t.Kids, markTrie)}
	for i, k := range u.Kids {
		u.Kids[i] = roomyTrie(k)
	}
	return u
}

func roomyEntries(l []api.Entry) []api.Entry {
	out := roomy(l, markEntry)
	for i, e := range out {
		out[i].Rows = roomy(e.Rows, markRow)
	}
	return out
}

func isRoomyRows(l, want []api.Row) bool {
	return slices.Equal(l[:len(l)+3], append(slices.Clone(want), markRow, markRow, markRow))
}

// isRoomyTrie reports whether nothing has been changed in a tree of roomyTrie,
// nor in its spare capacity.
func isRoomyTrie(u, want api.Trie) bool {
	if u.Label != want.Label || !isRoomyRows(u.Rows, want.Rows) || len(u.Kids) != len(want.Kids) {
		return false
	}
	for i, k := range u.Kids {
		if !isRoomyTrie(k, want.Kids[i]) {
			return false
		}
	}
	for _, k := range u.Kids[len(u.Kids) : len(u.Kids)+3] {
		if !sameTree(k, markTrie) {
			return false
		}
	}
	return true
}

func isRoomyEntries(l, want []api.Entry) bool {
	if len(l) != len(want) || !sameEntries(l[len(l):len(l)+3], []api.Entry{markEntry, markEntry, markEntry}) {
		return false
	}
	for i, e := range l {
		if e.Path != want[i].Path || !isRoomyRows(e.Rows, want[i].Rows) {
			return false
		}
	}
	return true
}

// spoilRows and the others overwrite all memory of a result.
func spoilRows(l []api.Row) {
	for i := range l[:cap(l)] {
		l[:cap(l)][i] = api.Row{From: -9, To: -9}
	}
}

func spoilEntries(l []api.Entry) {
	for _, e := range l {
		spoilRows(e.Rows)
	}
	for i := range l[:cap(l)] {
		l[:cap(l)][i] = api.Entry{Path: "spoilt"}
	}
}

func spoilTrie(t api.Trie) {
	spoilRows(t.Rows)
	for _, k := range t.Kids {
		spoilTrie(k)
	}
	for i := range t.Kids[:cap(t.Kids)] {
		t.Kids[:cap(t.Kids)][i] = api.Trie{Label: "spoilt"}
	}
}

// TestMemory: no call changes an argument or its spare capacity, and no result
// shares memory with one.
func TestMemory(t *testing.T) {
	l := entries("abd", "abc", "x", "ab", "b", "ba")
	u := build(t, l)
	tree, list, put := roomyTrie(u), roomyEntries(l), roomy(manyRows(5), markRow)
	for range 2 {
		spoilEntries(radix.Entries(tree))
		spoilEntries(radix.Under(tree, "ab"))
		spoilEntries(radix.Between(tree, "ab", "b"))
		spoilRows(radix.Get(tree, "abc"))
		for _, path := range []string{"abc", "ab", "a", "abcd", "none", "x"} {
			for _, rows := range [][]api.Row{nil, put} {
				v, e := radix.Put(tree, path, rows)
				if e != api.OK {
					t.Fatalf("Put(%q): error %d", path, e)
				}
				spoilTrie(v)
			}
		}
		v, e := radix.Build(list)
		if e != api.OK {
			t.Fatalf("Build: error %d", e)
		}
		spoilTrie(v)
		if radix.Nodes(tree) != 7 || radix.Check(tree) != api.OK {
			t.Errorf("the tree has %d nodes", radix.Nodes(tree))
		}
		if !isRoomyTrie(tree, u) || !isRoomyEntries(list, l) || !isRoomyRows(put, manyRows(5)) {
			t.Fatalf("an argument is changed: %v, %v, %v", tree, list, put)
		}
	}
}

// TestEntriesShareNoMemory spoils one part of a result after the other.
func TestEntriesShareNoMemory(t *testing.T) {
	l := entries("a", "ab", "abc", "b")
	for _, got := range [][]api.Entry{radix.Entries(build(t, l)), radix.Under(build(t, l), ""), radix.Between(build(t, l), "a", "")} {
		for i := range got {
			if !sameEntries(got[i:], l[i:]) {
				t.Fatalf("the entries %v are spoilt by an earlier one", got[i:])
			}
			spoilRows(got[i].Rows)
		}
	}
}

// TestNodesShareNoMemory appends to the kids of each node in the spare capacity,
// and spoils its rows.
func TestNodesShareNoMemory(t *testing.T) {
	shared := rows(1)
	l := []api.Entry{{Path: "a", Rows: shared}, {Path: "ab", Rows: shared}, {Path: "ac", Rows: shared}, {Path: "b", Rows: shared}, {Path: "bb", Rows: shared}}
	built := build(t, l)
	if !sameEntries(spoiledLater(t, built), l) {
		t.Error("Build")
	}
	v := put(t, build(t, l), "c", shared)
	if !sameEntries(spoiledLater(t, v), append(slices.Clone(l), api.Entry{Path: "c", Rows: shared})) {
		t.Error("Put")
	}
}

// spoiledLater returns the entries of a tree, each taken right before its memory,
// and the spare capacity of the kids beside it, is spoilt.
func spoiledLater(t *testing.T, u api.Trie) []api.Entry {
	t.Helper()
	var l []api.Entry
	var visit func(path string, node api.Trie)
	visit = func(path string, node api.Trie) {
		if len(node.Rows) > 0 {
			l = append(l, api.Entry{Path: path, Rows: slices.Clone(node.Rows)})
		}
		spoilRows(node.Rows)
		for i := range node.Kids[len(node.Kids):cap(node.Kids)] {
			node.Kids[len(node.Kids):cap(node.Kids)][i] = api.Trie{Label: "spoilt", Rows: rows(-1)}
		}
		for _, k := range node.Kids {
			visit(path+k.Label, k)
		}
	}
	visit("", u)
	return l
}
