package object_test

import (
	"math/rand"
	"reflect"
	"strings"
	"testing"

	"fasti/api"
	"fasti/cell"
	"fasti/object"
	"fasti/span"
)

// modelMark returns the first bytes of an encoding: a number for the kind, and the base.
func modelMark(number, base int) string {
	digits := ""
	for ; base > 0; base /= 256 {
		digits = string([]byte{byte(base % 256)}) + digits
	}
	return string([]byte{byte(number + len(digits))}) + digits
}

func modelNum(n int) string {
	if n < 0 {
		return modelMark(0x20, -(n + 1))
	}
	return modelMark(0x10, n)
}

func modelText(s string) string {
	return modelMark(0x30, len(s)) + s
}

func modelList(encodings ...string) string {
	return modelMark(0x40, len(encodings)) + strings.Join(encodings, "")
}

func modelRows(l []api.Row) string {
	var rows []string
	for _, r := range l {
		v := modelNum(r.V.N)
		if r.V.Kind == api.VText {
			v = modelText(r.V.S)
		}
		rows = append(rows, modelList(modelNum(r.From), modelNum(r.To), v))
	}
	return modelList(rows...)
}

func modelEncoding(o api.Object) string {
	var kids, parents []string
	for _, k := range o.Kids {
		kids = append(kids, modelList(modelNum(int(k.First)), modelText(k.Id)))
	}
	for _, p := range o.Parents {
		parents = append(parents, modelText(p))
	}
	if o.Kind == api.ONode {
		return modelList(modelNum(1), modelText(o.Label), modelRows(o.Rows), modelList(kids...))
	}
	return modelList(modelNum(2), modelList(parents...), modelNum(o.Stamp), modelText(o.Note), modelText(o.Root))
}

func modelIsValid(o api.Object) bool {
	var used api.Object
	right := false
	switch o.Kind {
	case api.ONode:
		used = api.Object{Kind: o.Kind, Label: o.Label, Rows: o.Rows, Kids: o.Kids}
		right = len(o.Label) <= 24 && span.Check(o.Rows) == api.OK
		least := 0
		for _, k := range o.Kids {
			right = right && int(k.First) >= least && len(k.Id) == 32
			least = int(k.First) + 1
		}
	case api.OCommit:
		used = api.Object{Kind: o.Kind, Parents: o.Parents, Stamp: o.Stamp, Note: o.Note, Root: o.Root}
		right = len(o.Note) <= 40 && len(o.Root) == 32 && o.Stamp >= 0 && o.Stamp <= 1<<40 && len(o.Parents) <= 2
		distinct := map[string]bool{}
		for _, p := range o.Parents {
			right = right && len(p) == 32 && !distinct[p]
			distinct[p] = true
		}
	}
	return right && same(o, used)
}

// part returns an element of a list, or the zero cell.
func part(c api.Cell, i int) api.Cell {
	if i >= len(c.L) {
		return api.Cell{}
	}
	return c.L[i]
}

func guessRows(c api.Cell) []api.Row {
	var l []api.Row
	for _, r := range c.L {
		v := api.Value{Kind: api.VNum, N: part(r, 2).N}
		if part(r, 2).Kind == api.CText {
			v = api.Value{Kind: api.VText, S: part(r, 2).S}
		}
		l = append(l, api.Row{From: part(r, 0).N, To: part(r, 1).N, V: v})
	}
	return l
}

// guessObject returns the only object that the cell may be that of.
func guessObject(c api.Cell) api.Object {
	if part(c, 0).N != 1 {
		o := api.Object{Kind: api.OCommit, Stamp: part(c, 2).N, Note: part(c, 3).S, Root: part(c, 4).S}
		for _, p := range part(c, 1).L {
			o.Parents = append(o.Parents, p.S)
		}
		return o
	}
	o := api.Object{Kind: api.ONode, Label: part(c, 1).S, Rows: guessRows(part(c, 2))}
	for _, k := range part(c, 3).L {
		o.Kids = append(o.Kids, api.Kid{First: byte(part(k, 0).N), Id: part(k, 1).S})
	}
	return o
}

// modelTake encodes a guess again, instead of examining the cell.
func modelTake(s string) (api.Object, api.Errno) {
	c, e := cell.Take(s)
	if e != api.OK {
		return api.Object{}, e
	}
	o := guessObject(c)
	if !modelIsValid(o) || modelEncoding(o) != s {
		return api.Object{}, api.ErrFormat
	}
	return o, api.OK
}

// compareTake returns the error of Take.
func compareTake(t *testing.T, s string) api.Errno {
	t.Helper()
	want, wantError := modelTake(s)
	o, e := object.Take(s)
	if !same(o, want) || e != wantError {
		t.Fatalf("Take(%x) = %v, %d, want %v, %d", s, o, e, want, wantError)
	}
	if e != api.OK {
		return e
	}
	if again, e := object.Put(o); again != s || e != api.OK {
		t.Fatalf("Put of what Take(%x) returned = %x, %d", s, again, e)
	}
	return e
}

// same takes nil for an empty slice.
func same(a, b api.Object) bool {
	return reflect.DeepEqual(plain(a), plain(b))
}

func plain(o api.Object) api.Object {
	if len(o.Rows) == 0 {
		o.Rows = nil
	}
	if len(o.Kids) == 0 {
		o.Kids = nil
	}
	if len(o.Parents) == 0 {
		o.Parents = nil
	}
	return o
}

func randomBytes(random *rand.Rand, count int) string {
	b := make([]byte, count)
	random.Read(b)
	return string(b)
}

func randomRows(random *rand.Rand) []api.Row {
	var l []api.Row
	from := 0
	for range random.Intn(5) * random.Intn(14) {
		from += random.Intn(1 << random.Intn(30))
		r := api.Row{From: from, To: from + 1 + random.Intn(1<<random.Intn(30)), V: num(int(random.Uint64() >> random.Intn(64)))}
		if random.Intn(2) == 0 {
			r.V = text(strings.Repeat("\u00fc", random.Intn(21)))
		}
		from = r.To
		if last := len(l) - 1; last < 0 || l[last].To < r.From || l[last].V != r.V {
			l = append(l, r)
		}
	}
	return l
}

func randomObject(random *rand.Rand) api.Object {
	if random.Intn(2) == 0 {
		o := api.Object{Kind: api.OCommit, Stamp: random.Intn(1 << random.Intn(41)), Note: randomBytes(random, random.Intn(41)), Root: randomBytes(random, 32)}
		for range random.Intn(3) {
			o.Parents = append(o.Parents, randomBytes(random, 32))
		}
		return o
	}
	o := api.Object{Kind: api.ONode, Label: randomBytes(random, random.Intn(25)), Rows: randomRows(random)}
	gap := 1 + random.Intn(90)
	for first := random.Intn(gap); first < 256; first += 1 + random.Intn(gap) {
		o.Kids = append(o.Kids, api.Kid{First: byte(first), Id: randomBytes(random, 32)})
	}
	return o
}
