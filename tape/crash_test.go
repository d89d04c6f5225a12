package tape_test

import (
	"math/rand"
	"slices"
	"strconv"
	"strings"
	"testing"

	"fasti/api"
	"fasti/drum"
	"fasti/tape"
)

// kept lists the numbers of the bits that are set.
func kept(bits int) []int {
	var out []int
	for i := range 30 {
		if bits>>i&1 == 1 {
			out = append(out, i)
		}
	}
	return out
}

// crashes calls f with a drum for each set of pending writes that may be kept.
func crashes(t *testing.T, d *drum.Drum, f func(d *drum.Drum)) {
	t.Helper()
	for bits := range 1 << d.Loose() {
		c := d.Copy()
		expectErrno(t, "Crash", c.Crash(kept(bits)), api.OK)
		f(c)
	}
}

// survivors opens a drum, twice, and has all flushed records there, followed by
// some of the others in order.
func survivors(t *testing.T, d *drum.Drum, appended []string, flushed int) (*tape.Tape, []string) {
	t.Helper()
	a, l, e := tape.Open(d)
	if e != api.OK || len(l) < flushed || len(l) > len(appended) || !slices.Equal(l, appended[:len(l)]) {
		t.Fatalf("Open = %q, %d, want %q, of which %d were flushed", l, e, appended, flushed)
	}
	b := open(t, d, l...)
	if a.Life() != b.Life() || a.Room() != b.Room() || a.Len() != len(l) || b.Len() != len(l) {
		t.Fatalf("lives %d and %d, rooms %d and %d, %d and %d records", a.Life(), b.Life(), a.Room(), b.Room(), a.Len(), b.Len())
	}
	return a, l
}

func TestCrashExample(t *testing.T) {
	d := newDrum(t, 4)
	add(t, open(t, d), "a", "b")
	for bits, want := range [][]string{nil, {"a"}, nil, {"a", "b"}} {
		c := d.Copy()
		c.Crash(kept(bits))
		open(t, c, want...)
	}
}

// records returns records of these numbers of sectors, each with its own letter.
func records(letter rune, sectors ...int) []string {
	var out []string
	for i, n := range sectors {
		out = append(out, strings.Repeat(string(letter+rune(i)), 51*(n-1)+20))
	}
	return out
}

// TestEveryCrash keeps every set of sectors, in two lives, and has a third one
// see no record again that was lost.
func TestEveryCrash(t *testing.T) {
	for flushed := range 4 {
		first := records('a', 1, 2, 1)
		d := newDrum(t, 9)
		a := open(t, d)
		add(t, a, first[:flushed]...)
		settle(t, a)
		add(t, a, first[flushed:]...)
		crashes(t, d, func(d *drum.Drum) {
			for _, sizes := range [][]int{{1, 1}, {2, 1}, {1, 2}, {3}, {1, 1, 1, 1}} {
				secondLife(t, d.Copy(), first, flushed, records('p', sizes...))
			}
		})
	}
}

func secondLife(t *testing.T, d *drum.Drum, first []string, flushed int, second []string) {
	t.Helper()
	_, before := survivors(t, d, first, flushed)
	for settled := range 2 {
		c := d.Copy()
		a := open(t, c, before...)
		add(t, a, second[:settled]...)
		settle(t, a)
		add(t, a, second[settled:]...)
		all := append(slices.Clone(before), second...)
		open(t, c, all...)
		crashes(t, c, func(d *drum.Drum) {
			b, l := survivors(t, d, all, len(before)+settled)
			for n := 1; n <= b.Room() && n <= 4; n++ {
				e := d.Copy()
				b := open(t, e, l...)
				third := records('x', n)
				add(t, b, third...)
				open(t, e, append(slices.Clone(l), third...)...)
			}
		})
	}
}

// TestLostRecords runs many lives of a drum. What an Open lacks is not expected
// any more, so that a lost record would be found if it returned.
func TestLostRecords(t *testing.T) {
	r := rand.New(rand.NewSource(2))
	for range 500 {
		d := newDrum(t, 1+r.Intn(20))
		var all []string
		flushed := 0
		for life := range 12 {
			a, l := survivors(t, d, all, flushed)
			all, flushed = oneLife(t, r, a, strconv.Itoa(life), l)
			expectErrno(t, "Crash", d.Crash(r.Perm(d.Loose() + 1)[:r.Intn(d.Loose()+2)]), api.OK)
		}
	}
}

// oneLife appends and flushes at random, after the records that there are. It
// returns all records, and how many of them a crash can not take.
func oneLife(t *testing.T, r *rand.Rand, a *tape.Tape, name string, all []string) ([]string, int) {
	t.Helper()
	flushed := len(all)
	for range r.Intn(8) {
		if r.Intn(4) == 0 {
			settle(t, a)
			flushed = len(all)
			continue
		}
		s := name + "." + strconv.Itoa(len(all)) + strings.Repeat("+", r.Intn(120))
		if tape.Need(len(s)) > a.Room() {
			expectErrno(t, "Append", a.Append(s), api.ErrFull)
			continue
		}
		add(t, a, s)
		all = append(all, s)
	}
	return all, flushed
}
