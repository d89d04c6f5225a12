package tape_test

import (
	"strings"
	"testing"

	"fasti/api"
	"fasti/drum"
	"fasti/tape"
)

// calls appends the records, and flushes where there is a dash.
func calls(a *tape.Tape, list []string) []api.Errno {
	var out []api.Errno
	for _, s := range list {
		if s == "-" {
			out = append(out, a.Settle())
		} else {
			out = append(out, a.Append(s))
		}
	}
	return out
}

var someCalls = []string{
	"a", strings.Repeat("b", 103), "-", strings.Repeat("c", 60), "", "-", "-", strings.Repeat("d", 51),
}

// TestFuse has the power fail at each call of the drum, and counts what the
// calls before that have done.
func TestFuse(t *testing.T) {
	const writes = 1 + 3 + 1 + 2 + 1 + 1 + 1 + 1
	for fuse := range writes + 2 {
		d := newDrum(t, 9)
		a := open(t, d)
		expectErrno(t, "Arm", d.Arm(fuse), api.OK)
		left, records, sectors, settled, pending := fuse, 0, 0, 0, 0
		for i, e := range calls(a, someCalls) {
			cost, want := 1, api.OK
			if someCalls[i] != "-" {
				cost = tape.Need(len(someCalls[i]))
			}
			if left < cost {
				left, want = -1, api.ErrDown
			}
			expectErrno(t, "call", e, want)
			if want != api.OK {
				continue
			}
			left -= cost
			if someCalls[i] == "-" {
				settled, pending = sectors, 0
				continue
			}
			records, sectors, pending = records+1, sectors+cost, pending+cost
		}
		expectCounts(t, "after the calls", a, records, 9-sectors, 1)
		if d.Down() != (fuse < writes) || d.Loose() < pending {
			t.Errorf("fuse %d: Down = %v, Loose = %d, want at least %d", fuse, d.Down(), d.Loose(), pending)
		}
		for i := range 9 {
			if zero := d.Sure(i) == strings.Repeat("\x00", 64); zero != (i >= settled) {
				t.Errorf("fuse %d: of sector %d, %q is durable", fuse, i, d.Sure(i))
			}
		}
	}
}

// TestPartlyWritten has the sectors of a record that were written before the
// power failed remain, and not make up a record.
func TestPartlyWritten(t *testing.T) {
	for n := range 3 {
		d := newDrum(t, 5)
		a := open(t, d)
		add(t, a, "a")
		d.Arm(n)
		expectErrno(t, "Append", a.Append(strings.Repeat("b", 153)), api.ErrDown)
		expectCounts(t, "after ErrDown", a, 1, 4, 1)
		if d.Loose() != 1+n {
			t.Errorf("Loose = %d, want %d", d.Loose(), 1+n)
		}
		d.Crash([]int{0, 1, 2, 3})
		want := []plain{one(1, 1, "a")}
		for part := range n {
			want = append(want, inner(1, 2, uint16(part), "b"))
		}
		expectSectors(t, d, want...)
		expectTape(t, d, []string{"a"}, 4, 2)
	}
}

// TestFailureStays has a tape return the error of its drum also when the power
// is on again, and leave the drum alone.
func TestFailureStays(t *testing.T) {
	failing := map[string]func(a *tape.Tape) api.Errno{
		"Append": func(a *tape.Tape) api.Errno { return a.Append("x") },
		"Settle": func(a *tape.Tape) api.Errno { return a.Settle() },
	}
	for what, fail := range failing {
		d := newDrum(t, 5)
		a := open(t, d)
		add(t, a, "a")
		settle(t, a)
		d.Arm(0)
		expectErrno(t, what, fail(a), api.ErrDown)
		d.Crash(nil)
		b := open(t, d, "a")
		add(t, b, "b")
		d.Arm(1)
		for range 3 {
			expectErrno(t, "Append after "+what, a.Append("y"), api.ErrDown)
			expectErrno(t, "a long Append after "+what, a.Append(strings.Repeat("y", 999)), api.ErrDown)
			expectErrno(t, "Settle after "+what, a.Settle(), api.ErrDown)
			expectCounts(t, "after "+what, a, 1, 4, 1)
		}
		if d.Loose() != 1 || d.Down() {
			t.Errorf("%s: Loose = %d, Down = %v", what, d.Loose(), d.Down())
		}
		settle(t, b)
		expectTape(t, d, []string{"a", "b"}, 3, 3)
	}
}

// TestFullBeforeDown has ErrFull come before the error of a drum without power,
// and not stay.
func TestFullBeforeDown(t *testing.T) {
	d := newDrum(t, 2)
	a, b := open(t, d), open(t, d)
	d.Arm(0)
	expectErrno(t, "Append to the other tape", b.Append("x"), api.ErrDown)
	expectErrno(t, "a long Append to the other tape", b.Append(strings.Repeat("x", 103)), api.ErrDown)
	expectErrno(t, "a long Append", a.Append(strings.Repeat("x", 103)), api.ErrFull)
	d.Crash(nil)
	add(t, a, "a")
	settle(t, a)
	expectErrno(t, "Append to the other tape", b.Append("x"), api.ErrDown)
	expectTape(t, d, []string{"a"}, 1, 2)
}

// TestDownFromElsewhere has a tape meet a drum whose power another caller lost.
func TestDownFromElsewhere(t *testing.T) {
	down := func() (*drum.Drum, *tape.Tape) {
		d := newDrum(t, 3)
		a := open(t, d)
		add(t, a, "a")
		d.Arm(0)
		expectErrno(t, "Settle", d.Settle(), api.ErrDown)
		return d, a
	}
	d, a := down()
	expectCounts(t, "power off", a, 1, 2, 1)
	d.Crash([]int{0})
	add(t, a, "b")
	settle(t, a)
	open(t, d, "a", "b")
	_, a = down()
	expectErrno(t, "Append", a.Append("b"), api.ErrDown)
	_, a = down()
	expectErrno(t, "Settle", a.Settle(), api.ErrDown)
}
