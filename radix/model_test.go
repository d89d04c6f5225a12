package radix_test

import (
	"maps"
	"math/rand"
	"slices"
	"strings"
	"testing"

	"fasti/api"
	"fasti/radix"
)

// model is what a tree contains, plainly: the number of each path's rows.
type model map[string]int

func (m model) with(path string, n int) model {
	m = maps.Clone(m)
	m[path] = n
	return m
}

func (m model) without(path string) model {
	m = maps.Clone(m)
	delete(m, path)
	return m
}

// entries returns those that are wanted, in order.
func (m model) entries(wanted func(path string) bool) []api.Entry {
	var l []api.Entry
	for _, p := range slices.Sorted(maps.Keys(m)) {
		if wanted(p) {
			l = append(l, entry(p, m[p]))
		}
	}
	return l
}

func (m model) all() []api.Entry {
	return m.entries(func(string) bool { return true })
}

// isNode reports whether the path is that of a node other than the root: it has
// rows, or goes on in two ways.
func (m model) isNode(path string) bool {
	next := map[byte]bool{}
	for p := range m {
		if len(p) > len(path) && p[:len(path)] == path {
			next[p[len(path)]] = true
		}
	}
	_, hasRows := m[path]
	return hasRows || len(next) > 1
}

// nodePaths returns the paths of all nodes other than the root, in order.
func (m model) nodePaths() []string {
	found := map[string]bool{}
	for p := range m {
		for end := 1; end <= len(p); end++ {
			if m.isNode(p[:end]) {
				found[p[:end]] = true
			}
		}
	}
	return slices.Sorted(maps.Keys(found))
}

// tree finds each node's kids among all paths of nodes: they have no other node
// between them and the node.
func (m model) tree() api.Trie {
	paths := m.nodePaths()
	var at func(path, label string) api.Trie
	at = func(path, label string) api.Trie {
		t := api.Trie{Label: label}
		if n, found := m[path]; found && path != "" {
			t.Rows = rows(n)
		}
		last := ""
		for _, p := range paths {
			if len(p) <= len(path) || p[:len(path)] != path || last != "" && strings.HasPrefix(p, last) {
				continue
			}
			t.Kids = append(t.Kids, at(p, p[len(path):]))
			last = p
		}
		return t
	}
	return at("", "")
}

// expectModel has a tree be the only one of its contents, and all functions tell
// of it what the contents determine.
func expectModel(t *testing.T, u api.Trie, m model, words []string) {
	t.Helper()
	if e := radix.Check(u); e != api.OK || !sameTree(u, m.tree()) {
		t.Fatalf("the tree of %v is %q, with the error %d; want %q", m, show(u), e, show(m.tree()))
	}
	if l := radix.Entries(u); !sameEntries(l, m.all()) {
		t.Fatalf("Entries of %q = %v, want %v", show(u), l, m.all())
	}
	if n, want := radix.Nodes(u), 1+len(m.nodePaths()); n != want || n > 2*len(m)+1 {
		t.Fatalf("Nodes of %q = %d, want %d", show(u), n, want)
	}
	for _, w := range words {
		var want []api.Row
		if n, found := m[w]; found {
			want = rows(n)
		}
		if got := radix.Get(u, w); !slices.Equal(got, want) {
			t.Fatalf("Get(%q) of %q = %v, want %v", w, show(u), got, want)
		}
	}
}

// expectRanges compares Under and Between for all words, and all pairs of them.
func expectRanges(t *testing.T, u api.Trie, m model, words []string) {
	t.Helper()
	for _, w := range words {
		under := m.entries(func(p string) bool { return len(p) >= len(w) && p[:len(w)] == w })
		if got := radix.Under(u, w); !sameEntries(got, under) {
			t.Fatalf("Under(%q) of %q = %v, want %v", w, show(u), got, under)
		}
		for _, to := range words {
			want := m.entries(func(p string) bool { return !(p < w) && (len(to) == 0 || p < to) })
			if got := radix.Between(u, w, to); !sameEntries(got, want) {
				t.Fatalf("Between(%q, %q) of %q = %v, want %v", w, to, show(u), got, want)
			}
		}
	}
}

// TestAllSubsets has all trees of a few paths, and each call of Put on them.
func TestAllSubsets(t *testing.T) {
	paths := []string{"a", "ab", "abc", "abd", "ac", "b", "a\x00", "\xff"}
	words := append(slices.Clone(paths), "", "abcd", "\x00", "ad", "b\xff", strings.Repeat("a", 25))
	for set := range 1 << len(paths) {
		m := model{}
		for i, p := range paths {
			if set>>i&1 == 1 {
				m[p] = i
			}
		}
		u := build(t, m.all())
		expectModel(t, u, m, words)
		expectRanges(t, u, m, words)
		for _, p := range append(slices.Clone(paths), "abcd", "ad", "\x00") {
			expectModel(t, put(t, u, p, rows(99)), m.with(p, 99), words)
			expectModel(t, put(t, u, p, nil), m.without(p), words)
		}
		expectModel(t, u, m, words)
	}
}

// randomPath returns one of few bytes, often a long one, so that paths share
// beginnings of each length.
func randomPath(r *rand.Rand) string {
	letters := []byte{0, 'a', 'b', 0x80, 0xff}
	if r.Intn(3) == 0 {
		letters = letters[1:2]
	}
	length := 1 + r.Intn(4)
	if r.Intn(4) == 0 {
		length = 20 + r.Intn(5)
	}
	b := []byte(strings.Repeat("a", length))
	for range 1 + r.Intn(4) {
		b[r.Intn(length)] = letters[r.Intn(len(letters))]
	}
	return string(b)
}

// somePath returns a path of the model, or one near it, or another one.
func somePath(r *rand.Rand, m model) string {
	known := slices.Sorted(maps.Keys(m))
	if len(known) == 0 || r.Intn(3) == 0 {
		return randomPath(r)
	}
	p := known[r.Intn(len(known))]
	switch r.Intn(4) {
	case 0:
		return p[:1+r.Intn(len(p))]
	case 1:
		return (p + randomPath(r))[:min(24, len(p)+1)]
	}
	return p
}

// TestRandomCalls puts rows under paths, and takes them out again.
func TestRandomCalls(t *testing.T) {
	for seed := range 40 {
		r := rand.New(rand.NewSource(int64(seed)))
		m, u := model{}, api.Trie{}
		for i := range 80 {
			p := somePath(r, m)
			if r.Intn(5) < 2 {
				m, u = m.without(p), put(t, u, p, nil)
			} else {
				m, u = m.with(p, i), put(t, u, p, rows(i))
			}
			words := []string{p, somePath(r, m), randomPath(r), "", p + "a", p[:len(p)-1]}
			expectModel(t, u, m, words)
			expectRanges(t, u, m, words)
		}
	}
}

// TestCanonicalForm reaches the same contents in different orders, with detours.
func TestCanonicalForm(t *testing.T) {
	for seed := range 100 {
		r := rand.New(rand.NewSource(int64(seed)))
		m := model{}
		for i := range r.Intn(30) {
			m[somePath(r, m)] = i
		}
		want := m.tree()
		for range 3 {
			l := m.all()
			r.Shuffle(len(l), func(i, j int) { l[i], l[j] = l[j], l[i] })
			if u := build(t, l); !sameTree(u, want) {
				t.Fatalf("Build(%v) = %q, want %q", l, show(u), show(want))
			}
			u := api.Trie{}
			var detours []string
			for _, e := range l {
				if other := somePath(r, m); r.Intn(2) == 0 {
					detours = append(detours, other)
					u = put(t, u, other, rows(-1))
				}
				u = put(t, u, e.Path, e.Rows)
			}
			for _, p := range detours {
				u = put(t, u, p, rowsOf(m, p))
			}
			if !sameTree(u, want) {
				t.Fatalf("Put of %v, with detours by %q: %q, want %q", l, detours, show(u), show(want))
			}
		}
	}
}

func rowsOf(m model, path string) []api.Row {
	if n, found := m[path]; found {
		return rows(n)
	}
	return nil
}

// TestLocality has each other path keep its rows when one is put, however many
// nodes that path shares with it.
func TestLocality(t *testing.T) {
	for seed := range 100 {
		r := rand.New(rand.NewSource(int64(seed)))
		m := model{}
		for i := range 1 + r.Intn(20) {
			m[somePath(r, m)] = i
		}
		u := build(t, m.all())
		for range 20 {
			path := somePath(r, m)
			for _, l := range [][]api.Row{nil, rows(99), manyRows(64)} {
				v := put(t, u, path, l)
				if got := radix.Get(v, path); !slices.Equal(got, l) {
					t.Fatalf("Get(%q) = %v, want %v", path, got, l)
				}
				for p, n := range m {
					if got := radix.Get(v, p); p != path && !slices.Equal(got, rows(n)) {
						t.Fatalf("Put(%q) changes the rows of %q to %v", path, p, got)
					}
				}
			}
		}
	}
}

// TestManyPaths has so many of them that the time of a slow call would be felt.
func TestManyPaths(t *testing.T) {
	var l []api.Entry
	for i := range 50000 {
		path := []byte("0000")
		for at, n := 0, i*7919%1000003; at < len(path); at, n = at+1, n/40 {
			path[at] = byte('0' + n%40)
		}
		l = append(l, entry(string(path), i))
	}
	u := build(t, l)
	if n := len(radix.Entries(u)); n != len(l) || radix.Nodes(u) > 2*n+1 {
		t.Errorf("%d entries, %d nodes", n, radix.Nodes(u))
	}
	for i := range 10 {
		e := l[i*4999]
		if got := radix.Get(u, e.Path); !slices.Equal(got, e.Rows) {
			t.Errorf("Get(%q) = %v, want %v", e.Path, got, e.Rows)
		}
		u = put(t, u, e.Path, nil)
		if n := len(radix.Entries(u)); n != len(l)-i-1 {
			t.Errorf("%d entries after %d are taken out", n, i+1)
		}
	}
}
