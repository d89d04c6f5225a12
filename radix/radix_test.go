package radix_test

import (
	"slices"
	"strings"
	"testing"

	"fasti/api"
	"fasti/radix"
)

func TestExample(t *testing.T) {
	u := build(t, entries("abc", "abd", "ab"))
	if s := show(u); s != "(ab!(c! d!))" || radix.Nodes(u) != 4 {
		t.Errorf("the tree is %s, with %d nodes", s, radix.Nodes(u))
	}
	u = put(t, u, "abd", nil)
	if s := show(u); s != "(ab!(c!))" || radix.Nodes(u) != 3 {
		t.Errorf("without abd the tree is %s, with %d nodes", s, radix.Nodes(u))
	}
	u = put(t, u, "ab", nil)
	if s := show(u); s != "(abc!)" || radix.Nodes(u) != 2 {
		t.Errorf("without ab the tree is %s, with %d nodes", s, radix.Nodes(u))
	}
	u = put(t, u, "abc", nil)
	if s := show(u); s != "" || radix.Nodes(u) != 1 {
		t.Errorf("without abc the tree is %s, with %d nodes", s, radix.Nodes(u))
	}
}

// allBytes returns a kid for each first byte.
func allBytes() []api.Trie {
	var kids []api.Trie
	for i := range 256 {
		kids = append(kids, leaf(string([]byte{byte(i)})))
	}
	return kids
}

func TestCheckOfValidTrees(t *testing.T) {
	for what, u := range map[string]api.Trie{
		"empty":                          {},
		"empty slices":                   {Rows: []api.Row{}, Kids: []api.Trie{}},
		"one path":                       root(leaf("a")),
		"path of 24 bytes":               root(leaf(strings.Repeat("a", 24))),
		"path of 24 bytes in two labels": root(leaf(strings.Repeat("a", 23), leaf("b"))),
		"24 nodes below each other":      root(chain(24)),
		"node without rows":              root(branch("a", leaf("a"), leaf("b"))),
		"node with rows and one kid":     root(leaf("a", leaf("a"))),
		"nodes without rows below":       root(branch("a", branch("a", leaf("a"), leaf("b")), leaf("b"))),
		"all first bytes":                root(allBytes()...),
		"all first bytes further below":  root(branch("a", allBytes()...)),
		"bytes beyond ASCII":             root(leaf("\x00"), leaf("\x7f"), leaf("\x80\xff"), leaf("\xff\xff")),
		"64 rows":                        root(api.Trie{Label: "a", Rows: manyRows(64)}),
		"rows of any value":              root(api.Trie{Label: "a", Rows: []api.Row{{From: 0, To: 1, V: text("")}, {From: 1, To: api.MaxTime, V: num(-1)}}}),
	} {
		if e := radix.Check(u); e != api.OK {
			t.Errorf("%s: Check = %d", what, e)
		}
		if n, want := radix.Nodes(u), countNodes(u); n != want {
			t.Errorf("%s: Nodes = %d, want %d", what, n, want)
		}
		if again := build(t, radix.Entries(u)); !sameTree(again, u) {
			t.Errorf("%s: Build of Entries = %q, want %q", what, show(again), show(u))
		}
	}
}

func countNodes(t api.Trie) int {
	count := 1
	for _, k := range t.Kids {
		count += countNodes(k)
	}
	return count
}

// wrongRows are those of no path, each for one reason.
func wrongRows() map[string][]api.Row {
	return map[string][]api.Row{
		"zero row":          make([]api.Row, 1),
		"row of no time":    {{From: 1, To: 1, V: num(1)}},
		"row before times":  {{From: -1, To: 1, V: num(1)}},
		"row after times":   {{From: 1, To: api.MaxTime + 1, V: num(1)}},
		"value of no kind":  {{From: 1, To: 2}},
		"value not UTF-8":   {{From: 1, To: 2, V: text("\xff")}},
		"rows that overlap": {{From: 1, To: 3, V: num(1)}, {From: 2, To: 4, V: num(2)}},
		"row that could be": {{From: 1, To: 3, V: num(1)}, {From: 3, To: 4, V: num(1)}},
		"65 rows":           manyRows(65),
	}
}

// invalidTrees has each reason at the root's kids and further below.
func invalidTrees() map[string]api.Trie {
	trees := map[string]api.Trie{
		"root with a label":          {Label: "a"},
		"root with a label and kids": {Label: "a", Kids: []api.Trie{leaf("a"), leaf("b")}},
		"root with rows":             {Rows: rows(1)},
		"root with rows and kids":    {Rows: rows(1), Kids: []api.Trie{leaf("a"), leaf("b")}},
		"root like another node":     leaf("a"),
		"path of 25 bytes":           root(leaf(strings.Repeat("a", 25))),
		"path of 25 bytes by two":    root(leaf(strings.Repeat("a", 24), leaf("b"))),
		"path of 25 bytes without":   root(branch(strings.Repeat("a", 25), leaf("a"), leaf("b"))),
		"25 nodes below each other":  root(chain(25)),
		"path of many bytes":         root(leaf(strings.Repeat("a", 100000))),
	}
	for what, kids := range map[string][]api.Trie{
		"no label":                       {leaf("")},
		"no label, with kids":            {leaf("", leaf("a"))},
		"no label beside one":            {leaf(""), leaf("a")},
		"no label behind one":            {leaf("a"), leaf("")},
		"neither rows nor kids":          {branch("a")},
		"neither rows nor kids beside":   {leaf("a"), branch("b")},
		"no rows, one kid":               {branch("a", leaf("b"))},
		"empty rows, one kid":            {{Label: "a", Rows: []api.Row{}, Kids: []api.Trie{leaf("b")}}},
		"no rows, one kid with two":      {branch("a", branch("b", leaf("c"), leaf("d")))},
		"one first byte":                 {leaf("ab"), leaf("ac")},
		"one label":                      {leaf("a"), leaf("a")},
		"one first byte, not increasing": {leaf("ac"), leaf("ab")},
		"decreasing":                     {leaf("b"), leaf("a")},
		"decreasing at the end":          {leaf("a"), leaf("c"), leaf("b")},
		"decreasing beyond ASCII":        {leaf("\x80"), leaf("\x7f")},
		"more than all first bytes":      append(allBytes(), leaf("a")),
	} {
		trees["kids: "+what] = root(kids...)
		trees["further below: "+what] = root(leaf("a"), leaf("b", leaf("a"), branch("b", leaf("a"), leaf("b", kids...))))
	}
	for what, l := range wrongRows() {
		trees[what] = root(api.Trie{Label: "a", Rows: l})
		trees[what+" above kids"] = root(api.Trie{Label: "a", Rows: l, Kids: []api.Trie{leaf("a"), leaf("b")}})
		trees[what+" at the end"] = root(leaf("a"), branch("b", leaf("a"), api.Trie{Label: "b", Rows: l}))
	}
	return trees
}

func TestInvalidTrees(t *testing.T) {
	for what, u := range invalidTrees() {
		expectNothing(t, what, u)
	}
}

// TestTreesInThemselves has trees without an end.
func TestTreesInThemselves(t *testing.T) {
	for _, labels := range []string{"a", "ab", "abcdefgh"} {
		for _, withRows := range []bool{true, false} {
			kids := make([]api.Trie, len(labels))
			for i := range kids {
				kids[i] = api.Trie{Label: labels[i : i+1], Kids: kids}
				if withRows {
					kids[i].Rows = rows(i)
				}
			}
			what := labels + " in themselves"
			if len(radix.Entries(root(kids...))) != 0 || radix.Check(root(kids...)) != api.ErrArg || radix.Nodes(root(kids...)) != 0 {
				t.Error(what)
			}
			kids[0].Label = ""
			if _, e := radix.Put(root(kids...), "a", rows(1)); e != api.ErrArg || radix.Check(root(kids...)) != api.ErrArg {
				t.Error(what + ", the first one without a label")
			}
		}
	}
}

func TestBuild(t *testing.T) {
	all := make([]string, 256)
	for i := range all {
		all[i] = string([]byte{byte(i)})
	}
	a := strings.Repeat("a", 24)
	for want, paths := range map[string][]string{
		"":                          nil,
		"(a!)":                      {"a"},
		"(a! b!)":                   {"b", "a"},
		"(a!(b!(c!)))":              {"ab", "abc", "a"},
		"(a(b! c!))":                {"ac", "ab"},
		"(abc(d! e!) b!)":           {"abcd", "b", "abce"},
		"(ab!(c!) b!)":              {"b", "abc", "ab"},
		"(\x00! \x7f! \x80! \xff!)": {"\xff", "\x80", "\x7f", "\x00"},
		"(" + a[:23] + "(a! b!))":   {a, a[:23] + "b"},
		"(" + a[:23] + "!(a!))":     {a, a[:23]},
		"(a(\x00! \xff!))":          {"a\xff", "a\x00"},
	} {
		if u := build(t, entries(paths...)); show(u) != want {
			t.Errorf("Build of %q = %q, want %q", paths, show(u), want)
		}
	}
	if u := build(t, entries(all...)); radix.Nodes(u) != 257 || names(radix.Entries(u)) != strings.Join(all, " ") {
		t.Errorf("Build of all bytes has %d nodes", radix.Nodes(u))
	}
	l := []api.Entry{{Path: "a", Rows: manyRows(64)}, {Path: "b", Rows: []api.Row{{From: 0, To: api.MaxTime, V: text("")}}}}
	if u := build(t, l); !sameEntries(radix.Entries(u), l) {
		t.Errorf("Entries = %v, want %v", radix.Entries(u), l)
	}
}

func TestBuildRefuses(t *testing.T) {
	wrong := []api.Entry{{}, {Path: "", Rows: rows(1)}, {Path: strings.Repeat("a", 25), Rows: rows(1)}, {Path: "b"}, {Path: "b", Rows: []api.Row{}}}
	for _, l := range wrongRows() {
		wrong = append(wrong, api.Entry{Path: "b", Rows: l})
	}
	for _, w := range wrong {
		for _, l := range [][]api.Entry{
			{w}, {w, w}, {entry("a", 1), w}, {w, entry("c", 1)},
			{entry("a", 1), entry("a", 2), w}, {entry("a", 1), w, entry("a", 1)}, {w, entry("b", 1), entry("b", 1)}, {entry("b", 1), w},
		} {
			if u, e := radix.Build(l); !isZero(u) || e != api.ErrArg {
				t.Errorf("Build(%v) = %q, %d, want ErrArg", l, show(u), e)
			}
		}
	}
	for _, paths := range []string{"a a", "a b a", "b a a", "c a b a", "ab a abc ab", "a a a"} {
		if u, e := radix.Build(entries(strings.Fields(paths)...)); !isZero(u) || e != api.ErrTwice {
			t.Errorf("Build of %s = %q, %d, want ErrTwice", paths, show(u), e)
		}
	}
	if u, e := radix.Build([]api.Entry{entry("a", 1), entry("a", 1)}); !isZero(u) || e != api.ErrTwice {
		t.Errorf("Build of one entry twice = %q, %d, want ErrTwice", show(u), e)
	}
}

func TestEntries(t *testing.T) {
	l := entries("\x00", "a", "a\x00", "ab", "abc", "b", "\x7f", "\x80", "\xff\xff")
	mixed := slices.Clone(l)
	slices.Reverse(mixed)
	mixed[0], mixed[4] = mixed[4], mixed[0]
	if got := radix.Entries(build(t, mixed)); !sameEntries(got, l) {
		t.Errorf("Entries = %v, want %v", got, l)
	}
	if got := radix.Entries(api.Trie{}); len(got) != 0 {
		t.Errorf("Entries of the empty tree = %v", got)
	}
}

func TestGet(t *testing.T) {
	l := entries("a", "abc", "abd", "\x00", "\xff", strings.Repeat("x", 24))
	u := build(t, l)
	for _, e := range l {
		if got := radix.Get(u, e.Path); !slices.Equal(got, e.Rows) {
			t.Errorf("Get(%q) = %v, want %v", e.Path, got, e.Rows)
		}
	}
	for _, path := range []string{"", "ab", "b", "abe", "abcd", "A", "\x00\x00", "\xfe", "x", strings.Repeat("x", 23), strings.Repeat("x", 25), strings.Repeat("x", 1000)} {
		if got := radix.Get(u, path); len(got) != 0 {
			t.Errorf("Get(%q) = %v", path, got)
		}
		if got := radix.Get(api.Trie{}, path); len(got) != 0 {
			t.Errorf("Get(%q) of the empty tree = %v", path, got)
		}
	}
}

func TestPut(t *testing.T) {
	u := build(t, entries("abc", "abd", "x"))
	for _, c := range []struct {
		path string
		rows []api.Row
		want string
	}{
		{"abc", rows(7), "(ab(c! d!) x!)"},
		{"ab", rows(7), "(ab!(c! d!) x!)"},
		{"a", rows(7), "(a!(b(c! d!)) x!)"},
		{"ac", rows(7), "(a(b(c! d!) c!) x!)"},
		{"aa", rows(7), "(a(a! b(c! d!)) x!)"},
		{"abcd", rows(7), "(ab(c!(d!) d!) x!)"},
		{"abb", rows(7), "(ab(b! c! d!) x!)"},
		{"abe", rows(7), "(ab(c! d! e!) x!)"},
		{"\x00", rows(7), "(\x00! ab(c! d!) x!)"},
		{"\xff", rows(7), "(ab(c! d!) x! \xff!)"},
		{"x", nil, "(ab(c! d!))"},
		{"abc", nil, "(abd! x!)"},
		{"abc", []api.Row{}, "(abd! x!)"},
		{"a", nil, "(ab(c! d!) x!)"},
		{"ab", nil, "(ab(c! d!) x!)"},
		{"abcd", nil, "(ab(c! d!) x!)"},
		{"none", nil, "(ab(c! d!) x!)"},
		{strings.Repeat("x", 24), rows(7), "(ab(c! d!) x!(" + strings.Repeat("x", 23) + "!))"},
	} {
		v := put(t, u, c.path, c.rows)
		if s := show(v); s != c.want {
			t.Errorf("Put(%q, %v) = %q, want %q", c.path, c.rows, s, c.want)
		}
		if got := radix.Get(v, c.path); !slices.Equal(got, c.rows) {
			t.Errorf("Get(%q) = %v, want %v", c.path, got, c.rows)
		}
	}
	if v := put(t, api.Trie{}, "a", manyRows(64)); !sameTree(v, root(api.Trie{Label: "a", Rows: manyRows(64)})) {
		t.Errorf("Put into the empty tree = %q", show(v))
	}
	if v := put(t, api.Trie{Rows: []api.Row{}, Kids: []api.Trie{}}, "a", nil); !sameTree(v, api.Trie{}) {
		t.Errorf("Put of no rows into the empty tree = %q", show(v))
	}
}

func TestPutRefuses(t *testing.T) {
	for _, u := range []api.Trie{{}, build(t, entries("a", "ab", "b"))} {
		for _, path := range []string{"", strings.Repeat("a", 25), strings.Repeat("a", 1000)} {
			for _, l := range [][]api.Row{nil, {}, rows(1), make([]api.Row, 1)} {
				if v, e := radix.Put(u, path, l); !isZero(v) || e != api.ErrArg {
					t.Errorf("Put(%q, %v) = %q, %d, want ErrArg", path, l, show(v), e)
				}
			}
		}
		for what, l := range wrongRows() {
			for _, path := range []string{"a", "b", "c", "abc", ""} {
				if v, e := radix.Put(u, path, l); !isZero(v) || e != api.ErrArg {
					t.Errorf("Put(%q) of %s = %q, %d, want ErrArg", path, what, show(v), e)
				}
			}
		}
	}
}

func TestUnder(t *testing.T) {
	u := build(t, entries("abc", "abd", "a", "b", "\xff\xff", strings.Repeat("x", 24)))
	x := strings.Repeat("x", 25)
	for prefix, want := range map[string]string{
		"":        "a abc abd b " + x[:24] + " \xff\xff",
		"a":       "a abc abd",
		"ab":      "abc abd",
		"abc":     "abc",
		"abcd":    "",
		"abe":     "",
		"ac":      "",
		"A":       "",
		"b":       "b",
		"\xff":    "\xff\xff",
		"\x00":    "",
		x[:1]:     x[:24],
		x[:24]:    x[:24],
		x:         "",
		x + x + x: "",
	} {
		if got := names(radix.Under(u, prefix)); got != want {
			t.Errorf("Under(%q) = %q, want %q", prefix, got, want)
		}
		if got := radix.Under(api.Trie{}, prefix); len(got) != 0 {
			t.Errorf("Under(%q) of the empty tree = %v", prefix, got)
		}
	}
}

func TestBetween(t *testing.T) {
	u := build(t, entries("ab", "abc", "b", "\x7f", "\x80", "\xff\xff"))
	long := strings.Repeat("a", 100)
	for bounds, want := range map[[2]string]string{
		{"", ""}:                 "ab abc b \x7f \x80 \xff\xff",
		{"", "ab"}:               "",
		{"", "ab\x00"}:           "ab",
		{"", "abc"}:              "ab",
		{"ab", "abc"}:            "ab",
		{"ab", "ab"}:             "",
		{"ab", "abd"}:            "ab abc",
		{"ab\x00", "b"}:          "abc",
		{"a", "b"}:               "ab abc",
		{"abc", "b\x00"}:         "abc b",
		{"abca", "b"}:            "",
		{"b", "a"}:               "",
		{"b", "ab"}:              "",
		{"b", ""}:                "b \x7f \x80 \xff\xff",
		{"c", "\x80"}:            "\x7f",
		{"\x80", ""}:             "\x80 \xff\xff",
		{"\xff", "\xff\xff"}:     "",
		{"\xff", "\xff\xff\xff"}: "\xff\xff",
		{"\xff\xff\x00", ""}:     "",
		{long, "b"}:              "ab abc",
		{"", long}:               "",
		{"", "b" + long}:         "ab abc b",
		{"b" + long, ""}:         "\x7f \x80 \xff\xff",
	} {
		if got := names(radix.Between(u, bounds[0], bounds[1])); got != want {
			t.Errorf("Between(%q) = %q, want %q", bounds, got, want)
		}
		if got := radix.Between(api.Trie{}, bounds[0], bounds[1]); len(got) != 0 {
			t.Errorf("Between(%q) of the empty tree = %v", bounds, got)
		}
	}
}

// TestMostNodes has trees with as many nodes as there may be, and as few.
func TestMostNodes(t *testing.T) {
	for paths, want := range map[string]int{
		"":                      1,
		"a":                     2,
		"a b":                   3,
		"a ab abc abcd":         5,
		"aa ab":                 4,
		"aa ab ba bb":           7,
		"aaa aab aba abb":       8,
		"a aa ab":               4,
		"romane romanus rom rx": 7,
	} {
		l := entries(strings.Fields(paths)...)
		if n := radix.Nodes(build(t, l)); n != want || n > 2*len(l)+1 {
			t.Errorf("Nodes of %q = %d, want %d", paths, n, want)
		}
	}
}
