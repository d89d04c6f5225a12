package drum_test

import (
	"math"
	"slices"
	"testing"

	"fasti/api"
)

func TestCrashExample(t *testing.T) {
	d := newDrum(t, 2)
	write(t, d, "0a", "0b", "1c")
	expectErrno(t, "Crash", d.Crash([]int{0, 2}), api.OK)
	expect(t, "the example", d, []string{"a", "c"}, []string{"a", "c"})
}

// lastKept returns what is in a sector after a crash, by P5.6.
func lastKept(before string, sector int, writes []string, keep []int) string {
	for i := len(writes) - 1; i >= 0; i-- {
		if int(writes[i][0]-'0') == sector && slices.Contains(keep, i) {
			return writes[i][1:]
		}
	}
	return before
}

// TestCrashKeepsEachSubset has all subsets of pending writes, each in several
// orders, with indices that occur twice and with others that no write has.
func TestCrashKeepsEachSubset(t *testing.T) {
	before := []string{"p", "q", "r"}
	writes := []string{"0a", "1b", "0c", "1", "0a", "1d"}
	for subset := range 1 << len(writes) {
		var keep []int
		for i := range writes {
			if subset>>i&1 == 1 {
				keep = append(keep, i)
			}
		}
		backward := slices.Clone(keep)
		slices.Reverse(backward)
		more := append([]int{-1, 6, math.MaxInt}, append(slices.Concat(keep, backward), math.MinInt, 7, -6)...)
		for _, list := range [][]int{keep, backward, more} {
			d := newDrum(t, 3)
			write(t, d, "0p", "1q", "2r")
			d.Settle()
			write(t, d, writes...)
			expectSure(t, "before the crash", d, before)
			given := slices.Clone(list)
			expectErrno(t, "Crash", d.Crash(given), api.OK)
			if !slices.Equal(given, list) {
				t.Errorf("Crash changed %v to %v", list, given)
			}
			var want []string
			for i := range before {
				want = append(want, lastKept(before[i], i, writes, keep))
			}
			expect(t, "after the crash", d, want, want)
			if d.Loose() != 0 || d.Down() {
				t.Errorf("Loose = %d, Down = %v", d.Loose(), d.Down())
			}
			d.Crash([]int{0, 1, 2, 3, 4, 5})
			expect(t, "after one more crash", d, want, want)
		}
	}
}

func TestCrashWithNothingPending(t *testing.T) {
	for _, keep := range [][]int{nil, {}, {0}, {-1, 0, 1}} {
		d := newDrum(t, 2)
		expectErrno(t, "Crash", d.Crash(keep), api.OK)
		expect(t, "a new drum", d, []string{"", ""}, []string{"", ""})
		write(t, d, "1a")
		d.Settle()
		expectErrno(t, "Crash", d.Crash(keep), api.OK)
		expect(t, "a settled drum", d, []string{"", "a"}, []string{"", "a"})
	}
}

// TestIndicesBeginAnew has writes after a Settle and after a Crash, which count from 0 on.
func TestIndicesBeginAnew(t *testing.T) {
	d := newDrum(t, 3)
	write(t, d, "0a", "1b")
	d.Settle()
	write(t, d, "0c", "1d")
	d.Crash([]int{1})
	expect(t, "after Settle", d, []string{"a", "d", ""}, []string{"a", "d", ""})
	write(t, d, "2e", "0f")
	d.Crash([]int{0})
	expect(t, "after Crash", d, []string{"a", "d", "e"}, []string{"a", "d", "e"})
}

func TestCrashTakesTheFuse(t *testing.T) {
	d := newDrum(t, 1)
	d.Arm(1)
	d.Crash(nil)
	for range 4 {
		write(t, d, "0a")
	}
	d.Arm(0)
	d.Crash(nil)
	for range 4 {
		write(t, d, "0b")
	}
	cutOff(t, d)
	d.Crash(nil)
	for range 4 {
		write(t, d, "0c")
		expectErrno(t, "Settle", d.Settle(), api.OK)
	}
	expectErrno(t, "Arm", d.Arm(1), api.OK)
	write(t, d, "0d")
	expectErrno(t, "the call after a new fuse", d.Settle(), api.ErrDown)
}

// TestLostWritesDoNotComeBack writes as much again as was lost.
func TestLostWritesDoNotComeBack(t *testing.T) {
	d := newDrum(t, 3)
	write(t, d, "0a", "1b", "2c")
	d.Crash(nil)
	write(t, d, "0d")
	expect(t, "one write", d, []string{"d", "", ""}, []string{"", "", ""})
	d.Crash([]int{0, 1, 2})
	expect(t, "after a crash", d, []string{"d", "", ""}, []string{"d", "", ""})
	write(t, d, "1e")
	d.Settle()
	expect(t, "after Settle", d, []string{"d", "e", ""}, []string{"d", "e", ""})
}

func TestCopyIsIndependent(t *testing.T) {
	d := newDrum(t, 2)
	write(t, d, "0a")
	d.Settle()
	write(t, d, "0b", "1c", "0d")
	c := d.Copy()
	expect(t, "the copy", c, []string{"d", "c"}, []string{"a", ""})
	if c == d || c.Loose() != 3 || c.Size() != 2 || c.Down() {
		t.Errorf("Loose = %d, Size = %d, Down = %v", c.Loose(), c.Size(), c.Down())
	}
	write(t, d, "1e")
	write(t, c, "1f", "0g")
	expect(t, "the drum after writes", d, []string{"d", "e"}, []string{"a", ""})
	expect(t, "the copy after writes", c, []string{"g", "f"}, []string{"a", ""})
	d.Crash([]int{0, 3})
	expect(t, "the drum after a crash", d, []string{"b", "e"}, []string{"b", "e"})
	expect(t, "the copy after it", c, []string{"g", "f"}, []string{"a", ""})
	c.Settle()
	expect(t, "the copy after Settle", c, []string{"g", "f"}, []string{"g", "f"})
	expect(t, "the drum after it", d, []string{"b", "e"}, []string{"b", "e"})
	write(t, d, "0h")
	d.Settle()
	expect(t, "the copy at last", c, []string{"g", "f"}, []string{"g", "f"})
}

func TestCopyHasTheFuse(t *testing.T) {
	d := newDrum(t, 1)
	free := d.Copy()
	d.Arm(2)
	write(t, d, "0a")
	c := d.Copy()
	for range 4 {
		write(t, free, "0x")
	}
	write(t, c, "0b")
	expectErrno(t, "the copy's next call", c.Settle(), api.ErrDown)
	if d.Down() || !c.Down() {
		t.Errorf("Down is %v, and that of the copy %v", d.Down(), c.Down())
	}
	write(t, d, "0c")
	expectErrno(t, "the drum's next call", d.Settle(), api.ErrDown)
	if d.Loose() != 2 || c.Loose() != 2 || d.Sure(0) != full("") || c.Sure(0) != full("") {
		t.Errorf("Loose is %d, and that of the copy %d", d.Loose(), c.Loose())
	}
}

func TestCopyHasNoPowerEither(t *testing.T) {
	d := newDrum(t, 1)
	write(t, d, "0a", "0b")
	cutOff(t, d)
	c := d.Copy()
	if _, e := c.Read(0); e != api.ErrDown || !c.Down() || c.Loose() != 2 {
		t.Errorf("Read of the copy = %d, Down = %v, Loose = %d", e, c.Down(), c.Loose())
	}
	c.Crash([]int{0})
	expect(t, "the copy", c, []string{"a"}, []string{"a"})
	if !d.Down() || d.Loose() != 2 || d.Sure(0) != full("") {
		t.Errorf("Down = %v, Loose = %d", d.Down(), d.Loose())
	}
	d.Crash([]int{1})
	expect(t, "the drum", d, []string{"b"}, []string{"b"})
	expect(t, "the copy after it", c, []string{"a"}, []string{"a"})
}
