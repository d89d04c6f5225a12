package mtree

import (
	"slices"
	"testing"

	"fasti/api"
)

// objects are those of a shelf: no two objects with the same id are known, so that
// only a shelf that is made up can have one under the id of another one.
type objects map[string]api.Object

func (l objects) get(id string) (api.Object, api.Errno) {
	if o, found := l[id]; found {
		return o, api.OK
	}
	return api.Object{}, api.ErrNone
}

func row(n int) []api.Row {
	return []api.Row{{From: 0, To: 1, V: api.Value{Kind: api.VNum, N: n}}}
}

// TestUnknown has what is there, or comes twice, be left out, and different objects
// with one id be refused.
func TestUnknown(t *testing.T) {
	id := func(s string) []api.Kid { return []api.Kid{{First: 'x', Id: s}} }
	a := api.Object{Kind: api.ONode, Label: "a", Rows: row(1), Kids: id("1")}
	b := api.Object{Kind: api.ONode, Label: "b", Rows: row(1)}
	sameA := api.Object{Kind: api.ONode, Label: "a", Rows: row(1), Kids: id("1")}
	for _, c := range []struct {
		there objects
		put   []stored
		want  string
		e     api.Errno
	}{
		{nil, nil, "", api.OK},
		{nil, []stored{{"1", a}, {"2", b}}, "ab", api.OK},
		{nil, []stored{{"2", b}, {"1", a}, {"2", b}, {"1", sameA}}, "ba", api.OK},
		{objects{"1": sameA}, []stored{{"1", a}, {"2", b}}, "b", api.OK},
		{objects{"1": sameA, "2": b}, []stored{{"1", a}, {"2", b}}, "", api.OK},
		{objects{"1": b}, []stored{{"2", b}, {"1", a}}, "", api.ErrClash},
		{nil, []stored{{"1", a}, {"1", b}}, "", api.ErrClash},
		{nil, []stored{{"1", b}, {"2", b}, {"1", a}}, "", api.ErrClash},
		{objects{"1": a}, []stored{{"1", b}}, "", api.ErrClash},
		{objects{"1": {Kind: api.OCommit}}, []stored{{"1", api.Object{Kind: api.ONode}}}, "", api.ErrClash},
		{objects{"1": {Kind: api.ONode, Label: "c", Rows: row(1), Kids: id("1")}}, []stored{{"1", a}}, "", api.ErrClash},
		{objects{"1": {Kind: api.ONode, Label: "a", Rows: row(2), Kids: id("1")}}, []stored{{"1", a}}, "", api.ErrClash},
		{objects{"1": {Kind: api.ONode, Label: "a", Rows: row(1), Kids: id("2")}}, []stored{{"1", a}}, "", api.ErrClash},
		{objects{"1": {Kind: api.ONode, Label: "a", Rows: row(1)}}, []stored{{"1", a}}, "", api.ErrClash},
	} {
		l, e := unknown(c.there.get, c.put)
		labels := ""
		for _, o := range l {
			labels += o.Label
		}
		if labels != c.want || e != c.e {
			t.Errorf("unknown(%v, %v) = %v, %d, want %q, %d", c.there, c.put, l, e, c.want, c.e)
		}
	}
}

// TestCircle has a shelf whose objects stand below themselves, which ids exclude.
func TestCircle(t *testing.T) {
	a, b := api.Kid{First: 'a', Id: "a"}, api.Kid{First: 'b', Id: "b"}
	there := objects{
		"root": {Kind: api.ONode, Kids: []api.Kid{a}},
		"a":    {Kind: api.ONode, Label: "a", Rows: row(1), Kids: []api.Kid{b}},
		"b":    {Kind: api.ONode, Label: "bc", Rows: row(1), Kids: []api.Kid{a}},
	}
	if u, e := reader(there.get).tree("root"); e != api.ErrFormat || len(u.Kids) != 0 {
		t.Errorf("tree = %v, %d", u, e)
	}
	there["b"] = api.Object{Kind: api.ONode, Label: "b", Rows: row(1)}
	u, e := reader(there.get).tree("root")
	if e != api.OK || len(u.Kids) != 1 || u.Kids[0].Label != "a" || len(u.Kids[0].Kids) != 1 || !slices.Equal(u.Kids[0].Kids[0].Rows, row(1)) {
		t.Errorf("tree = %v, %d", u, e)
	}
}
