package radix

import (
	"iter"
	"slices"

	"fasti/api"
	"fasti/span"
)

func isPath(s string) bool {
	return 0 < len(s) && len(s) <= api.MaxPath
}

// areKids reports whether a node with this path may have these kids, whatever is
// below them.
func areKids(kids []api.Trie, path string) bool {
	for i, k := range kids {
		isUseful := len(k.Rows) > 0 || len(k.Kids) >= 2
		if k.Label == "" || len(path)+len(k.Label) > api.MaxPath || !isUseful || span.Check(k.Rows) != api.OK {
			return false
		}
		if i > 0 && k.Label[0] <= kids[i-1].Label[0] {
			return false
		}
	}
	return true
}

// nodes visits the nodes of a tree with their paths, in increasing order of these:
// each node before its kids.
func nodes(t api.Trie) iter.Seq2[string, api.Trie] {
	return func(yield func(string, api.Trie) bool) {
		visit("", t, yield)
	}
}

// visit reports whether yield wants more nodes.
func visit(path string, node api.Trie, yield func(string, api.Trie) bool) bool {
	if !yield(path, node) {
		return false
	}
	for _, k := range node.Kids {
		if !visit(path+k.Label, k, yield) {
			return false
		}
	}
	return true
}

// find returns the entries with the wanted paths, in increasing order, or ErrArg if
// the tree is not valid.
func find(t api.Trie, wanted func(path string) bool) ([]api.Entry, api.Errno) {
	if e := Check(t); e != api.OK {
		return nil, e
	}
	var l []api.Entry
	for path, node := range nodes(t) {
		if len(node.Rows) > 0 && wanted(path) {
			l = append(l, newEntry(path, node.Rows))
		}
	}
	return l, api.OK
}

func newEntry(path string, rows []api.Row) api.Entry {
	return api.Entry{Path: path, Rows: slices.Clone(rows)}
}

// treeOf returns the tree that contains the entries, whose paths must be strictly
// increasing. It takes over their rows.
func treeOf(l []api.Entry) api.Trie {
	return api.Trie{Kids: kidsOf(l, 0)}
}

// kidsOf returns the kids of a node, with all below them. The entries are those below
// the node; length is that of its path.
func kidsOf(l []api.Entry, length int) []api.Trie {
	var kids []api.Trie
	for len(l) > 0 {
		count := 1
		for count < len(l) && l[count].Path[length] == l[0].Path[length] {
			count++
		}
		kids = append(kids, kidOf(l[:count], length))
		l = l[count:]
	}
	return kids
}

// kidOf returns one of these kids: the paths of its entries have a first byte behind
// length in common.
func kidOf(l []api.Entry, length int) api.Trie {
	first, last := l[0].Path, l[len(l)-1].Path
	// The paths increase: those in between begin with what the first one and the last
	// one have in common, and only the first one can end there.
	end := length + 1
	for end < len(first) && first[end] == last[end] {
		end++
	}
	kid := api.Trie{Label: first[length:end]}
	if len(first) == end {
		kid.Rows = l[0].Rows
		l = l[1:]
	}
	kid.Kids = kidsOf(l, end)
	return kid
}
