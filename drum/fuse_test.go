package drum_test

import (
	"math"
	"testing"

	"fasti/api"
	"fasti/drum"
)

// TestFuseLetsSoManyCallsPass has each sequence of 6 writes and settlements, and
// each number of calls.
func TestFuseLetsSoManyCallsPass(t *testing.T) {
	const calls = 6
	for n := range calls + 2 {
		for sequence := range 1 << calls {
			d, m := newDrum(t, 2), newModel(2)
			expectErrno(t, "Arm", d.Arm(n), api.OK)
			for k := range calls {
				want := api.OK
				if k >= n {
					want = api.ErrDown
				}
				if sequence>>k&1 == 0 {
					expectErrno(t, "Write", d.Write(k%2, full(letters[k:k+1])), want)
				} else {
					expectErrno(t, "Settle", d.Settle(), want)
				}
				switch {
				case want == api.ErrDown:
				case sequence>>k&1 == 0:
					m.pending = append(m.pending, modelWrite{k % 2, letters[k : k+1]})
				default:
					m.keep(func(int) bool { return true })
				}
				if d.Down() != (want == api.ErrDown) {
					t.Errorf("after call %d of %d, Down is %v", k, n, d.Down())
				}
			}
			expectSure(t, "after all calls", d, m.durable)
			if d.Loose() != len(m.pending) {
				t.Errorf("Loose = %d, want %d", d.Loose(), len(m.pending))
			}
		}
	}
}

func TestFuseCountsOnlyWriteAndSettle(t *testing.T) {
	d := newDrum(t, 2)
	d.Arm(2)
	others := func() {
		d.Read(0)
		d.Read(-1)
		d.Write(2, full("x"))
		d.Write(0, "x")
		d.Arm(-1)
		d.Sure(0)
		d.Loose()
		d.Size()
		d.Copy().Settle()
		if d.Down() {
			t.Error("the power is off")
		}
	}
	others()
	others()
	write(t, d, "0a")
	others()
	expectErrno(t, "Settle", d.Settle(), api.OK)
	others()
	expect(t, "with no call left", d, []string{"a", ""}, []string{"a", ""})
	expectErrno(t, "the next call", d.Write(1, full("b")), api.ErrDown)
	if !d.Down() {
		t.Error("the power is on")
	}
}

func TestArmReplacesTheFuse(t *testing.T) {
	d := newDrum(t, 1)
	d.Arm(1)
	d.Arm(3)
	write(t, d, "0a", "0b")
	d.Arm(2)
	write(t, d, "0c", "0d")
	expectErrno(t, "Arm with no call left", d.Arm(1), api.OK)
	write(t, d, "0e")
	expectErrno(t, "a rejected Arm", d.Arm(-1), api.ErrArg)
	expectErrno(t, "the next call", d.Settle(), api.ErrDown)
	d.Crash(nil)
	d.Arm(3)
	d.Arm(0)
	expectErrno(t, "the call after Arm(0)", d.Write(0, full("f")), api.ErrDown)
}

func TestArmArguments(t *testing.T) {
	d := newDrum(t, 1)
	for _, n := range []int{-1, -2, math.MinInt} {
		expectErrno(t, "Arm", d.Arm(n), api.ErrArg)
	}
	for range 3 {
		write(t, d, "0a") // none of these was a fuse
	}
	for _, n := range []int{4, 1 << 40, math.MaxInt} {
		expectErrno(t, "Arm", d.Arm(n), api.OK)
		write(t, d, "0b", "0c", "0d")
	}
	cutOff(t, d)
	for _, n := range []int{-1, math.MinInt} {
		expectErrno(t, "Arm of a negative number without power", d.Arm(n), api.ErrArg)
	}
	for _, n := range []int{0, 1, math.MaxInt} {
		expectErrno(t, "Arm without power", d.Arm(n), api.ErrDown)
	}
	expectErrno(t, "Settle", d.Settle(), api.ErrDown)
}

func TestWithoutPower(t *testing.T) {
	d := newDrum(t, 2)
	write(t, d, "0a")
	d.Settle()
	write(t, d, "0b", "1c")
	cutOff(t, d)
	for range 3 {
		for _, i := range append(wrongSectors(2), 0, 1) {
			if s, e := d.Read(i); s != "" || e != api.ErrDown {
				t.Errorf("Read(%d) = %q, %d, want %d", i, s, e, api.ErrDown)
			}
		}
		expectErrno(t, "Write", d.Write(0, full("d")), api.ErrDown)
		expectErrno(t, "Write of too few bytes", d.Write(0, "d"), api.ErrArg)
		expectErrno(t, "Write to no sector", d.Write(2, full("d")), api.ErrArg)
		expectErrno(t, "Write to no sector", d.Write(-1, full("d")), api.ErrArg)
		expectErrno(t, "Settle", d.Settle(), api.ErrDown)
		expectErrno(t, "Arm", d.Arm(9), api.ErrDown)
		expectSure(t, "without power", d, []string{"a", ""})
		if d.Loose() != 2 || !d.Down() || d.Sure(2) != "" {
			t.Errorf("Loose = %d, Down = %v, Sure(2) = %q", d.Loose(), d.Down(), d.Sure(2))
		}
	}
	expectErrno(t, "Crash", d.Crash([]int{1}), api.OK)
	expect(t, "after a crash", d, []string{"a", "c"}, []string{"a", "c"})
}

// TestTheCallThatTurnsThePowerOff has Write and Settle as that call, with pending writes.
func TestTheCallThatTurnsThePowerOff(t *testing.T) {
	for what, call := range map[string]func(d *drum.Drum) api.Errno{
		"Write":  func(d *drum.Drum) api.Errno { return d.Write(1, full("x")) },
		"Settle": func(d *drum.Drum) api.Errno { return d.Settle() },
	} {
		d := newDrum(t, 2)
		write(t, d, "0a")
		d.Settle()
		d.Arm(2)
		write(t, d, "0b", "1c")
		expect(t, what+": with no call left", d, []string{"b", "c"}, []string{"a", ""})
		expectErrno(t, what, call(d), api.ErrDown)
		expectSure(t, what, d, []string{"a", ""})
		if d.Loose() != 2 || !d.Down() {
			t.Errorf("%s: Loose = %d, Down = %v", what, d.Loose(), d.Down())
		}
		d.Crash([]int{0, 1, 2})
		expect(t, what+": after a crash", d, []string{"b", "c"}, []string{"b", "c"})
	}
}
