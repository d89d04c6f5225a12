package mtree

import "fasti/api"

// reader returns the object with an id, as the method Get of a shelf does.
type reader func(id string) (api.Object, api.Errno)

// tree returns the tree whose root has an id.
func (read reader) tree(id string) (api.Trie, api.Errno) {
	node, e := read(id)
	if e != api.OK {
		return api.Trie{}, e
	}
	if !isRoot(node) {
		return api.Trie{}, api.ErrFormat
	}
	return read.below(node, 0)
}

// below returns a node with all below it. The node is one of a tree already; length
// is that of its path. No path is longer than MaxPath: this ends whatever the ids are.
func (read reader) below(node api.Object, length int) (api.Trie, api.Errno) {
	t := api.Trie{Label: node.Label, Rows: node.Rows}
	for _, k := range node.Kids {
		kid, e := read(k.Id)
		if e != api.OK {
			return api.Trie{}, e
		}
		if !isKid(kid, k.First, length) {
			return api.Trie{}, api.ErrFormat
		}
		u, e := read.below(kid, length+len(kid.Label))
		if e != api.OK {
			return api.Trie{}, e
		}
		t.Kids = append(t.Kids, u)
	}
	return t, api.OK
}

func isRoot(o api.Object) bool {
	return o.Kind == api.ONode && o.Label == "" && len(o.Rows) == 0
}

// isKid reports whether an object may stand below a node whose path has this length,
// as the kid with this first byte.
func isKid(o api.Object, first byte, length int) bool {
	if o.Kind != api.ONode || o.Label == "" || o.Label[0] != first {
		return false
	}
	return length+len(o.Label) <= api.MaxPath && (len(o.Rows) > 0 || len(o.Kids) >= 2)
}
