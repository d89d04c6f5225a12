package object_test

import (
	"crypto/sha256"
	"math"
	"math/rand"
	"slices"
	"strings"
	"testing"

	"fasti/api"
	"fasti/object"
)

func num(n int) api.Value     { return api.Value{Kind: api.VNum, N: n} }
func text(s string) api.Value { return api.Value{Kind: api.VText, S: s} }

// id returns 32 times a letter.
func id(letter string) string { return strings.Repeat(letter, 32) }

// rowsOf returns rows with gaps between them.
func rowsOf(count int) []api.Row {
	var l []api.Row
	for i := range count {
		l = append(l, api.Row{From: 3 * i, To: 3*i + 2, V: num(i)})
	}
	return l
}

func allKids() []api.Kid {
	var l []api.Kid
	for first := range 256 {
		l = append(l, api.Kid{First: byte(first), Id: string([]byte{byte(first)}) + id("x")[1:]})
	}
	return l
}

func validObjects() []api.Object {
	manyBytes := ""
	for c := range 40 {
		manyBytes += string([]byte{byte(37 * c)})
	}
	return []api.Object{
		{Kind: api.ONode},
		{Kind: api.ONode, Rows: []api.Row{}, Kids: []api.Kid{}, Parents: []string{}},
		{Kind: api.ONode, Label: manyBytes[:24]},
		{Kind: api.ONode, Label: strings.Repeat("\xff", 24)},
		{Kind: api.ONode, Rows: rowsOf(1)},
		{Kind: api.ONode, Rows: rowsOf(64)},
		{Kind: api.ONode, Rows: []api.Row{{From: 0, To: api.MaxTime, V: text(strings.Repeat("a", 40))}}},
		{Kind: api.ONode, Rows: []api.Row{{From: 3, To: 4, V: num(math.MinInt)}, {From: 4, To: 9, V: text("")}, {From: 9, To: 10, V: num(0)}}},
		{Kind: api.ONode, Kids: []api.Kid{{First: 0, Id: id("\x00")}}},
		{Kind: api.ONode, Kids: []api.Kid{{First: 255, Id: id("\xff")}}},
		{Kind: api.ONode, Kids: []api.Kid{{First: 'a', Id: id("i")}, {First: 'b', Id: id("i")}}},
		{Kind: api.ONode, Kids: allKids()},
		{Kind: api.ONode, Label: manyBytes[:24], Rows: rowsOf(64), Kids: allKids()},
		{Kind: api.OCommit, Root: id("r")},
		{Kind: api.OCommit, Root: id("r"), Rows: []api.Row{}, Kids: []api.Kid{}, Parents: []string{}},
		{Kind: api.OCommit, Root: id("\x00")},
		{Kind: api.OCommit, Root: id("r"), Parents: []string{id("r")}},
		{Kind: api.OCommit, Root: id("r"), Parents: []string{id("q"), id("p")}},
		{Kind: api.OCommit, Root: id("r"), Parents: []string{id("p")[1:] + "q", id("p")}},
		{Kind: api.OCommit, Root: id("r"), Stamp: 1},
		{Kind: api.OCommit, Root: id("r"), Stamp: api.MaxTime},
		{Kind: api.OCommit, Root: id("r"), Note: manyBytes},
		{Kind: api.OCommit, Root: id("r"), Note: "\xff"},
	}
}

// invalidObjects has each reason once, and at the edges.
func invalidObjects() map[string]api.Object {
	kids := func(l ...api.Kid) api.Object { return api.Object{Kind: api.ONode, Kids: l} }
	rows := func(l ...api.Row) api.Object { return api.Object{Kind: api.ONode, Rows: l} }
	parents := func(l ...string) api.Object { return api.Object{Kind: api.OCommit, Root: id("r"), Parents: l} }
	return map[string]api.Object{
		"zero":                          {},
		"no kind":                       {Root: id("r")},
		"kind 3":                        {Kind: 3},
		"kind 3 with a root":            {Kind: 3, Root: id("r")},
		"kind -1":                       {Kind: -1},
		"node with parents":             {Kind: api.ONode, Parents: []string{id("p")}},
		"node with an empty parent":     {Kind: api.ONode, Parents: []string{""}},
		"node with a stamp":             {Kind: api.ONode, Stamp: 1},
		"node with a negative stamp":    {Kind: api.ONode, Stamp: -1},
		"node with a note":              {Kind: api.ONode, Note: "\x00"},
		"node with a root":              {Kind: api.ONode, Root: id("r")},
		"label of 25 bytes":             {Kind: api.ONode, Label: strings.Repeat("a", 25)},
		"row of no time":                rows(api.Row{From: 1, To: 1, V: num(1)}),
		"row before all times":          rows(api.Row{From: -1, To: 1, V: num(1)}),
		"row after all times":           rows(api.Row{From: 1, To: api.MaxTime + 1, V: num(1)}),
		"row without a value":           rows(api.Row{From: 1, To: 2}),
		"row of an integer and a text":  rows(api.Row{From: 1, To: 2, V: api.Value{Kind: api.VNum, S: "a"}}),
		"row of a text and an integer":  rows(api.Row{From: 1, To: 2, V: api.Value{Kind: api.VText, N: 1}}),
		"row of a string of 41 bytes":   rows(api.Row{From: 1, To: 2, V: text(strings.Repeat("a", 41))}),
		"row of a string not UTF-8":     rows(api.Row{From: 1, To: 2, V: text("\xff")}),
		"rows that overlap":             rows(api.Row{From: 1, To: 3, V: num(1)}, api.Row{From: 2, To: 4, V: num(2)}),
		"rows that continue":            rows(api.Row{From: 1, To: 3, V: num(1)}, api.Row{From: 3, To: 4, V: num(1)}),
		"rows out of order":             rows(api.Row{From: 5, To: 6, V: num(1)}, api.Row{From: 1, To: 2, V: num(2)}),
		"65 rows":                       rows(rowsOf(65)...),
		"kid without an id":             kids(api.Kid{First: 1}),
		"kid with an id of 31 bytes":    kids(api.Kid{First: 1, Id: id("i")[1:]}),
		"kid with an id of 33 bytes":    kids(api.Kid{First: 1, Id: id("i") + "i"}),
		"last kid with a short id":      kids(api.Kid{First: 1, Id: id("i")}, api.Kid{First: 2, Id: "i"}),
		"kids with one first byte":      kids(api.Kid{First: 1, Id: id("i")}, api.Kid{First: 1, Id: id("j")}),
		"kids out of order":             kids(api.Kid{First: 2, Id: id("i")}, api.Kid{First: 1, Id: id("j")}),
		"last kids out of order":        kids(api.Kid{First: 0, Id: id("i")}, api.Kid{First: 255, Id: id("j")}, api.Kid{First: 1, Id: id("k")}),
		"all kids and one more":         kids(append(allKids(), api.Kid{First: 0, Id: id("i")})...),
		"commit with a label":           {Kind: api.OCommit, Root: id("r"), Label: "a"},
		"commit with rows":              {Kind: api.OCommit, Root: id("r"), Rows: rowsOf(1)},
		"commit with kids":              {Kind: api.OCommit, Root: id("r"), Kids: allKids()[:1]},
		"commit without a root":         {Kind: api.OCommit},
		"commit with a root of 31":      {Kind: api.OCommit, Root: id("r")[1:]},
		"commit with a root of 33":      {Kind: api.OCommit, Root: id("r") + "r"},
		"three parents":                 parents(id("a"), id("b"), id("c")),
		"one parent twice":              parents(id("a"), id("a")),
		"a parent without bytes":        parents(""),
		"a parent of 31 bytes":          parents(id("a")[1:]),
		"a parent of 33 bytes":          parents(id("a") + "a"),
		"a second parent of 31 bytes":   parents(id("a"), id("b")[1:]),
		"stamp before all times":        {Kind: api.OCommit, Root: id("r"), Stamp: -1},
		"stamp far before all times":    {Kind: api.OCommit, Root: id("r"), Stamp: math.MinInt},
		"stamp after all times":         {Kind: api.OCommit, Root: id("r"), Stamp: api.MaxTime + 1},
		"stamp far after all times":     {Kind: api.OCommit, Root: id("r"), Stamp: math.MaxInt},
		"note of 41 bytes":              {Kind: api.OCommit, Root: id("r"), Note: strings.Repeat("n", 41)},
		"node that has all of a commit": {Kind: api.ONode, Parents: []string{id("p")}, Stamp: 1, Note: "n", Root: id("r")},
		"commit that has all of a node": {Kind: api.OCommit, Root: id("r"), Label: "a", Rows: rowsOf(1), Kids: allKids()},
	}
}

func TestCheck(t *testing.T) {
	for i, o := range validObjects() {
		if e := object.Check(o); e != api.OK {
			t.Errorf("Check of valid object %d = %d", i, e)
		}
	}
	for what, o := range invalidObjects() {
		if e := object.Check(o); e != api.ErrArg {
			t.Errorf("%s: Check = %d, want ErrArg", what, e)
		}
	}
}

func TestPutAndIdRefuse(t *testing.T) {
	for what, o := range invalidObjects() {
		if s, e := object.Put(o); s != "" || e != api.ErrArg {
			t.Errorf("%s: Put = %x, %d, want ErrArg", what, s, e)
		}
		if s, e := object.Id(o); s != "" || e != api.ErrArg {
			t.Errorf("%s: Id = %x, %d, want ErrArg", what, s, e)
		}
	}
}

func TestPut(t *testing.T) {
	i, j := id("i"), id("j")
	for _, c := range []struct {
		o    api.Object
		want string
	}{
		{api.Object{Kind: api.ONode}, "\x41\x04\x11\x01\x30\x40\x40"},
		{api.Object{Kind: api.ONode, Label: "\xff\x00"}, "\x41\x04\x11\x01\x31\x02\xff\x00\x40\x40"},
		{
			api.Object{Kind: api.ONode, Rows: []api.Row{{From: 0, To: 300, V: num(-1)}, {From: 300, To: api.MaxTime, V: text("ab")}}},
			"\x41\x04\x11\x01\x30" + "\x41\x02" + "\x41\x03\x10\x12\x01\x2c\x20" + "\x41\x03\x12\x01\x2c\x16\x01\x00\x00\x00\x00\x00\x31\x02ab" + "\x40",
		},
		{
			api.Object{Kind: api.ONode, Label: "a", Kids: []api.Kid{{First: 0, Id: j}, {First: 'b', Id: i}, {First: 255, Id: j}}},
			"\x41\x04\x11\x01\x31\x01a\x40" + "\x41\x03" + "\x41\x02\x10\x31\x20" + j + "\x41\x02\x11b\x31\x20" + i + "\x41\x02\x11\xff\x31\x20" + j,
		},
		{api.Object{Kind: api.OCommit, Root: i}, "\x41\x05\x11\x02\x40\x10\x30\x31\x20" + i},
		{
			api.Object{Kind: api.OCommit, Parents: []string{j, i}, Stamp: 258, Note: "\xfe", Root: j},
			"\x41\x05\x11\x02" + "\x41\x02\x31\x20" + j + "\x31\x20" + i + "\x12\x01\x02\x31\x01\xfe\x31\x20" + j,
		},
	} {
		if s, e := object.Put(c.o); s != c.want || e != api.OK {
			t.Errorf("Put(%v) = %x, %d, want %x", c.o, s, e, c.want)
		}
	}
}

// testObjects are the valid ones, and random ones.
func testObjects() []api.Object {
	l := validObjects()
	random := rand.New(rand.NewSource(1))
	for range 2000 {
		l = append(l, randomObject(random))
	}
	return l
}

func TestPutTakeAndIdAgainstModel(t *testing.T) {
	for _, o := range testObjects() {
		want := modelEncoding(o)
		if s, e := object.Put(o); s != want || e != api.OK {
			t.Fatalf("Put(%v) = %x, %d, want %x", o, s, e, want)
		}
		if again, e := object.Take(want); !same(again, o) || e != api.OK {
			t.Fatalf("Take(%x) = %v, %d, want %v", want, again, e, o)
		}
		sum := sha256.Sum256([]byte(want))
		if s, e := object.Id(o); s != string(sum[:]) || e != api.OK {
			t.Fatalf("Id(%v) = %x, %d, want %x", o, s, e, sum)
		}
	}
}

// TestIds has objects with one encoding, and objects that differ.
func TestIds(t *testing.T) {
	encodings, ids := map[string]string{}, map[string]string{}
	for _, o := range append(testObjects(), validObjects()...) {
		s, _ := object.Put(o)
		i, _ := object.Id(o)
		if before, known := encodings[i]; known && before != s {
			t.Fatalf("%x and %x have the id %x", before, s, i)
		}
		if before, known := ids[s]; known && before != i {
			t.Fatalf("%x has the ids %x and %x", s, before, i)
		}
		encodings[i], ids[s] = s, i
		roomy := o
		roomy.Rows = append(make([]api.Row, 0, 99), o.Rows...)
		roomy.Kids = append(make([]api.Kid, 0, 999), o.Kids...)
		roomy.Parents = append(make([]string, 0, 9), o.Parents...)
		if again, e := object.Id(roomy); again != i || e != api.OK {
			t.Fatalf("Id of a copy of %v = %x, %d, want %x", o, again, e, i)
		}
	}
}

func TestCallsChangeNoArgument(t *testing.T) {
	rows, kids, parents := rowsOf(4), allKids()[:4], []string{id("c"), id("b"), id("a"), "z"}
	objects := []api.Object{
		{Kind: api.ONode, Label: "a", Rows: rows[:2], Kids: kids[:2]},
		{Kind: api.OCommit, Parents: parents[:2], Root: id("r")},
		{Kind: api.ONode, Rows: rows[1:2], Kids: kids[1:2:3]},
	}
	for _, o := range objects {
		object.Check(o)
		object.Put(o)
		object.Id(o)
		object.PutRows(o.Rows)
	}
	if !slices.Equal(rows, rowsOf(4)) || !slices.Equal(kids, allKids()[:4]) || !slices.Equal(parents, []string{id("c"), id("b"), id("a"), "z"}) {
		t.Errorf("the arguments are now %v, %v and %q", rows, kids, parents)
	}
}

func TestTakeSharesNoMemory(t *testing.T) {
	s, _ := object.Put(api.Object{Kind: api.ONode, Rows: rowsOf(3), Kids: allKids()[:3]})
	a, _ := object.Take(s)
	b, _ := object.Take(s)
	clear(a.Rows[:cap(a.Rows)])
	clear(a.Kids[:cap(a.Kids)])
	if !slices.Equal(b.Rows, rowsOf(3)) || !slices.Equal(b.Kids, allKids()[:3]) {
		t.Errorf("a change of one result changed another to %v", b)
	}
}
