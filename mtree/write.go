package mtree

import (
	"slices"

	"fasti/api"
	"fasti/object"
)

// stored is a node as it is stored.
type stored struct {
	id   string
	node api.Object
}

// storedNodes appends those of a valid tree to l, in the order in which they are
// stored: the root is the last one.
func storedNodes(t api.Trie, l []stored) []stored {
	node := api.Object{Kind: api.ONode, Label: t.Label, Rows: t.Rows}
	for _, k := range t.Kids {
		l = storedNodes(k, l)
		node.Kids = append(node.Kids, api.Kid{First: k.Label[0], Id: l[len(l)-1].id})
	}
	id, _ := object.Id(node) // a valid tree has valid nodes only
	return append(l, stored{id, node})
}

// unknown returns those of the nodes that are not there yet, each once. It returns
// ErrClash where putting them would: what is put cannot be taken back, and a call
// with an error must have no effect.
func unknown(read reader, l []stored) ([]api.Object, api.Errno) {
	added := make(map[string]api.Object)
	var fresh []api.Object
	for _, n := range l {
		known, found := added[n.id]
		if o, e := read(n.id); e == api.OK {
			known, found = o, true
		}
		if found && !isSame(known, n.node) {
			return nil, api.ErrClash
		}
		if !found {
			added[n.id] = n.node
			fresh = append(fresh, n.node)
		}
	}
	return fresh, api.OK
}

// isSame reports whether an object has the encoding of a node.
func isSame(o, node api.Object) bool {
	return o.Kind == node.Kind && o.Label == node.Label && slices.Equal(o.Rows, node.Rows) && slices.Equal(o.Kids, node.Kids)
}
