package radix_test

import (
	"reflect"
	"slices"
	"strings"
	"testing"

	"fasti/api"
	"fasti/radix"
)

func num(n int) api.Value     { return api.Value{Kind: api.VNum, N: n} }
func text(s string) api.Value { return api.Value{Kind: api.VText, S: s} }

// rows returns one row, another one for each number.
func rows(n int) []api.Row { return []api.Row{{From: 1, To: 5, V: num(n)}} }

// manyRows returns rows with gaps between them.
func manyRows(count int) []api.Row {
	var l []api.Row
	for i := range count {
		l = append(l, api.Row{From: 3 * i, To: 3*i + 2, V: num(i)})
	}
	return l
}

func entry(path string, n int) api.Entry { return api.Entry{Path: path, Rows: rows(n)} }

// entries returns one for each path, with different rows.
func entries(paths ...string) []api.Entry {
	var l []api.Entry
	for i, p := range paths {
		l = append(l, entry(p, i))
	}
	return l
}

func root(kids ...api.Trie) api.Trie { return api.Trie{Kids: kids} }

// leaf returns a node with rows, and branch one without.
func leaf(label string, kids ...api.Trie) api.Trie {
	return api.Trie{Label: label, Rows: rows(len(label)), Kids: kids}
}

func branch(label string, kids ...api.Trie) api.Trie {
	return api.Trie{Label: label, Kids: kids}
}

// chain returns nodes one below the other, each with a label of one byte.
func chain(count int) api.Trie {
	t := leaf("z")
	for range count - 1 {
		t = leaf("a", t)
	}
	return t
}

func build(t *testing.T, l []api.Entry) api.Trie {
	t.Helper()
	u, e := radix.Build(l)
	if e != api.OK {
		t.Fatalf("Build(%v): error %d", l, e)
	}
	if e := radix.Check(u); e != api.OK {
		t.Fatalf("Check of Build(%v) = %d", l, e)
	}
	return u
}

func put(t *testing.T, u api.Trie, path string, l []api.Row) api.Trie {
	t.Helper()
	v, e := radix.Put(u, path, l)
	if e != api.OK {
		t.Fatalf("Put(%q, %q, %v): error %d", show(u), path, l, e)
	}
	if e := radix.Check(v); e != api.OK {
		t.Fatalf("Check of Put(%q, %q, %v) = %d", show(u), path, l, e)
	}
	return v
}

// show returns the labels of a tree, with a mark behind those of nodes with rows.
func show(t api.Trie) string {
	s := t.Label
	if len(t.Rows) > 0 {
		s += "!"
	}
	if len(t.Kids) == 0 {
		return s
	}
	var l []string
	for _, k := range t.Kids {
		l = append(l, show(k))
	}
	return s + "(" + strings.Join(l, " ") + ")"
}

func names(l []api.Entry) string {
	var out []string
	for _, e := range l {
		out = append(out, e.Path)
	}
	return strings.Join(out, " ")
}

// sameTree and sameEntries take nil slices for empty ones.
func sameTree(a, b api.Trie) bool {
	return a.Label == b.Label && slices.Equal(a.Rows, b.Rows) && slices.EqualFunc(a.Kids, b.Kids, sameTree)
}

func sameEntries(a, b []api.Entry) bool {
	return slices.EqualFunc(a, b, func(x, y api.Entry) bool { return x.Path == y.Path && slices.Equal(x.Rows, y.Rows) })
}

func isZero(t api.Trie) bool { return reflect.ValueOf(t).IsZero() }

// expectNothing has no function tell anything of a tree that is not valid.
func expectNothing(t *testing.T, what string, u api.Trie) {
	t.Helper()
	if e := radix.Check(u); e != api.ErrArg {
		t.Errorf("%s: Check = %d, want ErrArg", what, e)
	}
	for _, path := range []string{"a", "ab", "b", "", strings.Repeat("a", 25)} {
		for _, l := range [][]api.Row{nil, rows(1), make([]api.Row, 1)} {
			if v, e := radix.Put(u, path, l); !isZero(v) || e != api.ErrArg {
				t.Errorf("%s: Put(%q, %v) = %q, %d, want ErrArg", what, path, l, show(v), e)
			}
		}
		if l := radix.Get(u, path); len(l) != 0 {
			t.Errorf("%s: Get(%q) = %v", what, path, l)
		}
		if l := radix.Under(u, path); len(l) != 0 {
			t.Errorf("%s: Under(%q) = %v", what, path, l)
		}
		if l := radix.Between(u, path, ""); len(l) != 0 {
			t.Errorf("%s: Between(%q, all) = %v", what, path, l)
		}
	}
	if l := radix.Entries(u); len(l) != 0 {
		t.Errorf("%s: Entries = %v", what, l)
	}
	if n := radix.Nodes(u); n != 0 {
		t.Errorf("%s: Nodes = %d", what, n)
	}
}
