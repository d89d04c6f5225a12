package span_test

import (
	"math/rand"
	"slices"
	"testing"

	"fasti/api"
	"fasti/span"
)

// model is the value of each slot of time; the slots have different lengths,
// and the last one ends at the last time.
type model [slots]int

const slots = 5

func edge(i int) int { return [slots + 1]int{0, 1, 3, 4, 1000, api.MaxTime}[i] }

func modelValue(n int) api.Value {
	return [3]api.Value{{}, num(0), text("a")}[n]
}

func (m model) at(t int) api.Value {
	for i, n := range m {
		if edge(i) <= t && t < edge(i+1) {
			return modelValue(n)
		}
	}
	return api.Value{}
}

// rows joins the slots of one value.
func (m model) rows() []api.Row {
	var l []api.Row
	for i := 0; i < slots; {
		j := i + 1
		for j < slots && m[j] == m[i] {
			j++
		}
		if m[i] != 0 {
			l = append(l, row(edge(i), edge(j), modelValue(m[i])))
		}
		i = j
	}
	return l
}

// pieces joins the slots in which both models differ in one way.
func pieces(a, b model) []api.Piece {
	var d []api.Piece
	for i := 0; i < slots; {
		j := i + 1
		for j < slots && a[j] == a[i] && b[j] == b[i] {
			j++
		}
		if a[i] != b[i] {
			d = append(d, api.Piece{From: edge(i), To: edge(j), Had: modelValue(a[i]), Now: modelValue(b[i])})
		}
		i = j
	}
	return d
}

func (m model) with(i, j, n int) model {
	for ; i < j; i++ {
		m[i] = n
	}
	return m
}

func models() []model {
	all := []model{{}}
	for i := range slots {
		for _, m := range slices.Clone(all) {
			all = append(all, m.with(i, i+1, 1), m.with(i, i+1, 2))
		}
	}
	return all
}

func TestModelAt(t *testing.T) {
	for _, m := range models() {
		l := m.rows()
		if e := span.Check(l); e != api.OK {
			t.Fatalf("Check(%v) = %d", l, e)
		}
		for i := range slots + 1 {
			for at := edge(i) - 1; at <= edge(i)+1; at++ {
				if v, ok := span.At(l, at); v != m.at(at) || ok != (v != api.Value{}) {
					t.Fatalf("At(%v, %d) = %v, %t", l, at, v, ok)
				}
			}
		}
	}
}

// TestModelPutCutClip covers the locality and the canonical form too: the
// expected rows have the previous values outside the span, and are joined.
func TestModelPutCutClip(t *testing.T) {
	for _, m := range models() {
		l := m.rows()
		for i := range slots {
			for j := i + 1; j <= slots; j++ {
				from, to := edge(i), edge(j)
				for n := 1; n <= 2; n++ {
					if x, e := span.Put(l, from, to, modelValue(n)); !slices.Equal(x, m.with(i, j, n).rows()) || e != api.OK {
						t.Fatalf("Put(%v, %d, %d, %v) = %v, %d", l, from, to, modelValue(n), x, e)
					}
				}
				if x, e := span.Cut(l, from, to); !slices.Equal(x, m.with(i, j, 0).rows()) || e != api.OK {
					t.Fatalf("Cut(%v, %d, %d) = %v, %d", l, from, to, x, e)
				}
				if x := span.Clip(l, from, to); !slices.Equal(x, m.with(0, i, 0).with(j, slots, 0).rows()) {
					t.Fatalf("Clip(%v, %d, %d) = %v", l, from, to, x)
				}
			}
		}
	}
}

func TestModelDiffAndApply(t *testing.T) {
	for _, a := range models() {
		for _, b := range models() {
			x, y := a.rows(), b.rows()
			d := span.Diff(x, y)
			if !slices.Equal(d, pieces(a, b)) {
				t.Fatalf("Diff(%v, %v) = %v", x, y, d)
			}
			if z, e := span.Apply(x, d); !slices.Equal(z, y) || e != api.OK {
				t.Fatalf("Apply(%v, %v) = %v, %d", x, d, z, e)
			}
			if z, e := span.Apply(y, exchanged(d)); !slices.Equal(z, x) || e != api.OK {
				t.Fatalf("Apply(%v, %v) = %v, %d", y, exchanged(d), z, e)
			}
		}
	}
}

// TestModelApplyToOthers applies the pieces of two lists to a third one.
func TestModelApplyToOthers(t *testing.T) {
	all := models()
	r := rand.New(rand.NewSource(1))
	for range 200000 {
		a, b, c := all[r.Intn(len(all))], all[r.Intn(len(all))], all[r.Intn(len(all))]
		want, wantE := c, api.OK
		for i := range slots {
			if a[i] == b[i] {
				continue
			}
			if c[i] != a[i] {
				wantE = api.ErrConflict
			}
			want[i] = b[i]
		}
		rows := want.rows()
		if wantE != api.OK {
			rows = nil
		}
		if x, e := span.Apply(c.rows(), pieces(a, b)); !slices.Equal(x, rows) || e != wantE {
			t.Fatalf("Apply(%v, %v) = %v, %d, want %v, %d", c.rows(), pieces(a, b), x, e, rows, wantE)
		}
	}
}

// TestCanonicalForm reaches lists with the same values by different calls.
func TestCanonicalForm(t *testing.T) {
	r := rand.New(rand.NewSource(2))
	for range 2000 {
		var m model
		var l []api.Row
		for range 12 {
			i := r.Intn(slots)
			j, n := i+1+r.Intn(slots-i), r.Intn(3)
			m = m.with(i, j, n)
			var e api.Errno
			if n == 0 {
				l, e = span.Cut(l, edge(i), edge(j))
			} else {
				l, e = span.Put(l, edge(i), edge(j), modelValue(n))
			}
			if e != api.OK || span.Check(l) != api.OK || !slices.Equal(l, m.rows()) {
				t.Fatalf("%v, %d for %v", l, e, m.rows())
			}
		}
	}
}

// roomy returns the slice with spare capacity, which holds a mark.
func roomy[T any](l []T, mark T) []T {
	return append(slices.Clone(l), mark, mark, mark)[:len(l)]
}

// TestMemory: no call changes an argument or its spare capacity, and no result
// shares memory with one.
func TestMemory(t *testing.T) {
	markRow, markPiece := row(-7, -7, num(-7)), api.Piece{From: -7}
	for _, m := range models() {
		for _, o := range []model{{}, m, m.with(1, 3, 2), m.with(0, slots, 1), {0, 1, 0, 2, 1}} {
			l, other, d := roomy(m.rows(), markRow), roomy(o.rows(), markRow), roomy(pieces(m, o), markPiece)
			put, _ := span.Put(l, 1, 4, num(5))
			cut, _ := span.Cut(l, 1, 4)
			applied, _ := span.Apply(l, d)
			uncut, _ := span.Cut(l, 2000, 2001)
			same, _ := span.Apply(l, nil)
			for _, x := range [][]api.Row{put, cut, applied, uncut, same, span.Clip(l, 0, api.MaxTime), span.Clip(l, 4, 1000)} {
				for i := range x[:cap(x)] {
					x[:cap(x)][i] = row(-9, -9, num(-9))
				}
			}
			found := span.Diff(l, other)
			for i := range found[:cap(found)] {
				found[:cap(found)][i] = api.Piece{From: -9}
			}
			if !slices.Equal(l[:len(l)+3], append(m.rows(), markRow, markRow, markRow)) ||
				!slices.Equal(other[:len(other)+3], append(o.rows(), markRow, markRow, markRow)) ||
				!slices.Equal(d[:len(d)+3], append(pieces(m, o), markPiece, markPiece, markPiece)) {
				t.Fatalf("an argument is changed: %v, %v, %v", l, other, d)
			}
		}
	}
}
