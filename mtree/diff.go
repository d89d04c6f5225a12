package mtree

import (
	"cmp"
	"slices"
	"strings"

	"fasti/api"
)

// part is a node with all below it.
type part struct {
	above  string // path of the node above
	step   string // what leads there: the first byte of the label, or all of it once the node is read
	id     string
	isRead bool
	node   api.Object
}

// path is that of the node, or what the path begins with while the node is not read.
func (p *part) path() string {
	return p.above + p.step
}

// cursor visits the nodes of a tree in increasing order of paths, and reads those
// alone that it does not skip. The tree must have been loaded without an error.
type cursor struct {
	fetch reader
	parts []part // that are left; the next one is the last
	reads int
}

func newCursor(fetch reader, id string) *cursor {
	return &cursor{fetch: fetch, parts: []part{{id: id}}}
}

func (c *cursor) isDone() bool {
	return len(c.parts) == 0
}

func (c *cursor) next() *part {
	return &c.parts[len(c.parts)-1]
}

// skip passes the next node, and all below it.
func (c *cursor) skip() {
	c.parts = c.parts[:len(c.parts)-1]
}

func (c *cursor) read() {
	p := c.next()
	p.node, _ = c.fetch(p.id) // it was there when the tree was loaded
	p.step, p.isRead = p.node.Label, true
	c.reads++
}

// take passes the next node, which has been read, but not what is below it. It
// returns the path of the node and its rows.
func (c *cursor) take() (string, []api.Row) {
	p := *c.next()
	c.skip()
	for _, k := range slices.Backward(p.node.Kids) {
		c.parts = append(c.parts, part{above: p.path(), step: string([]byte{k.First}), id: k.Id})
	}
	return p.path(), p.node.Rows
}

// order compares the next parts of two cursors by their paths. No part comes behind
// all others.
func order(a, b *cursor) int {
	if a.isDone() || b.isDone() {
		return cmp.Compare(len(b.parts), len(a.parts))
	}
	return strings.Compare(a.next().path(), b.next().path())
}

// areShared reports whether two cursors come to the same part in the same place:
// below another path, the same part has other paths.
func areShared(a, b *cursor) bool {
	if a.isDone() || b.isDone() {
		return false
	}
	p, q := a.next(), b.next()
	return p.above == q.above && p.id == q.id
}

// changes traverses two trees in parallel. A part that is not read may contain the
// path that it begins with, so it is read before anything that comes behind that.
func changes(had, now *cursor) []api.Change {
	var l []api.Change
walk:
	for {
		o := order(had, now)
		switch {
		case had.isDone() && now.isDone():
			break walk
		case areShared(had, now):
			had.skip()
			now.skip()
		case o <= 0 && !had.next().isRead:
			had.read()
		case o >= 0 && !now.next().isRead:
			now.read()
		default:
			l = appendChange(l, had, now, o)
		}
	}
	return l
}

// appendChange takes the first one of two nodes, or both if they have one path.
func appendChange(l []api.Change, had, now *cursor, o int) []api.Change {
	var c api.Change
	if o <= 0 {
		c.Path, c.Had = had.take()
	}
	if o >= 0 {
		c.Path, c.Now = now.take()
	}
	if slices.Equal(c.Had, c.Now) {
		return l
	}
	return append(l, c)
}
