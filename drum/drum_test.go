package drum_test

import (
	"math"
	"strings"
	"testing"

	"fasti/api"
	"fasti/drum"
)

// full returns the contents of a sector that begin with s.
func full(s string) string {
	return s + strings.Repeat("\x00", 64-len(s))
}

func newDrum(t *testing.T, n int) *drum.Drum {
	t.Helper()
	d, e := drum.New(n)
	if d == nil || e != api.OK {
		t.Fatalf("New(%d) = %v, %d", n, d, e)
	}
	return d
}

// write writes to sectors, each named by its digit and followed by its contents.
func write(t *testing.T, d *drum.Drum, writes ...string) {
	t.Helper()
	for _, w := range writes {
		if e := d.Write(int(w[0]-'0'), full(w[1:])); e != api.OK {
			t.Fatalf("Write of %q = %d", w, e)
		}
	}
}

// expect has, for each sector, what it shows and what is durable of it.
func expect(t *testing.T, what string, d *drum.Drum, visible, durable []string) {
	t.Helper()
	for i := range visible {
		if s, e := d.Read(i); s != full(visible[i]) || e != api.OK {
			t.Errorf("%s: Read(%d) = %q, %d, want %q", what, i, s, e, visible[i])
		}
	}
	expectSure(t, what, d, durable)
}

func expectSure(t *testing.T, what string, d *drum.Drum, durable []string) {
	t.Helper()
	if d.Size() != len(durable) {
		t.Errorf("%s: Size = %d, want %d", what, d.Size(), len(durable))
	}
	for i := range durable {
		if s := d.Sure(i); s != full(durable[i]) {
			t.Errorf("%s: Sure(%d) = %q, want %q", what, i, s, durable[i])
		}
	}
}

func expectErrno(t *testing.T, what string, got, want api.Errno) {
	t.Helper()
	if got != want {
		t.Errorf("%s = %d, want %d", what, got, want)
	}
}

// wrongSectors are those that a drum of n sectors does not have.
func wrongSectors(n int) []int {
	return []int{-1, -2, n, n + 1, 4096, math.MinInt, math.MaxInt}
}

// cutOff turns the power off by a call that is not executed.
func cutOff(t *testing.T, d *drum.Drum) {
	t.Helper()
	if d.Arm(0) != api.OK || d.Down() || d.Settle() != api.ErrDown || !d.Down() {
		t.Fatal("the power is not off")
	}
}

func TestNew(t *testing.T) {
	for _, n := range []int{1, 2, 3, 64, 4095, 4096} {
		d := newDrum(t, n)
		expect(t, "a new drum", d, make([]string, n), make([]string, n))
		if d.Loose() != 0 || d.Down() {
			t.Errorf("a new drum has %d pending writes, and Down is %v", d.Loose(), d.Down())
		}
	}
	for _, n := range []int{0, -1, -4096, 4097, 1 << 20, math.MinInt, math.MaxInt} {
		if d, e := drum.New(n); d != nil || e != api.ErrArg {
			t.Errorf("New(%d) = %v, %d, want %d", n, d, e, api.ErrArg)
		}
	}
}

func TestNewDrumsAreApart(t *testing.T) {
	a, b := newDrum(t, 2), newDrum(t, 2)
	write(t, a, "0a")
	a.Settle()
	write(t, a, "1b")
	expect(t, "the other drum", b, []string{"", ""}, []string{"", ""})
	if b.Loose() != 0 {
		t.Errorf("the other drum has %d pending writes", b.Loose())
	}
}

func TestNewDrumHasNoFuse(t *testing.T) {
	d := newDrum(t, 1)
	for range 5000 {
		if d.Write(0, full("a")) != api.OK || d.Settle() != api.OK {
			t.Fatal("a call is not executed")
		}
	}
}

func TestReadTellsTheLastWrite(t *testing.T) {
	d := newDrum(t, 3)
	write(t, d, "0a")
	expect(t, "one write", d, []string{"a", "", ""}, []string{"", "", ""})
	write(t, d, "1b", "0c")
	expect(t, "three writes", d, []string{"c", "b", ""}, []string{"", "", ""})
	write(t, d, "0a")
	expect(t, "the first contents again", d, []string{"a", "b", ""}, []string{"", "", ""})
	write(t, d, "1")
	expect(t, "zeros", d, []string{"a", "", ""}, []string{"", "", ""})
	if d.Loose() != 5 {
		t.Errorf("Loose = %d", d.Loose())
	}
	d.Settle()
	write(t, d, "2d", "0e")
	expect(t, "writes above durable contents", d, []string{"e", "", "d"}, []string{"a", "", ""})
}

func TestSectorsHaveAnyBytes(t *testing.T) {
	all := make([]byte, 256)
	for i := range all {
		all[i] = byte(i)
	}
	d := newDrum(t, 5)
	contents := []string{string(all[:64]), string(all[64:128]), string(all[128:192]), string(all[192:]), strings.Repeat("\xff", 64)}
	for i, s := range contents {
		expectErrno(t, "Write", d.Write(i, s), api.OK)
	}
	expect(t, "before Settle", d, contents, make([]string, 5))
	d.Settle()
	expect(t, "after Settle", d, contents, contents)
}

func TestTheGreatestSector(t *testing.T) {
	d := newDrum(t, 4096)
	for _, i := range []int{0, 63, 64, 255, 256, 4094, 4095} {
		expectErrno(t, "Write", d.Write(i, full("a")), api.OK)
		if s, e := d.Read(i); s != full("a") || e != api.OK || d.Sure(i) != full("") {
			t.Errorf("Read(%d) = %q, %d", i, s, e)
		}
	}
	d.Crash([]int{6})
	for i, want := range map[int]string{0: "", 4094: "", 4095: "a"} {
		if s, e := d.Read(i); s != full(want) || e != api.OK || d.Sure(i) != s {
			t.Errorf("after a crash, Read(%d) = %q, %d, want %q", i, s, e, want)
		}
	}
}

func TestSectorsThatAreNotThere(t *testing.T) {
	d := newDrum(t, 3)
	write(t, d, "0a", "1b", "2c")
	for _, i := range wrongSectors(3) {
		if s, e := d.Read(i); s != "" || e != api.ErrNone {
			t.Errorf("Read(%d) = %q, %d, want %d", i, s, e, api.ErrNone)
		}
		if s := d.Sure(i); s != "" {
			t.Errorf("Sure(%d) = %q", i, s)
		}
		expectErrno(t, "Write", d.Write(i, full("d")), api.ErrArg)
		expectErrno(t, "Write of too few bytes", d.Write(i, "d"), api.ErrArg)
	}
	if d.Loose() != 3 {
		t.Errorf("Loose = %d", d.Loose())
	}
	expect(t, "after rejected writes", d, []string{"a", "b", "c"}, []string{"", "", ""})
}

func TestWritesOfOtherLengths(t *testing.T) {
	d := newDrum(t, 2)
	for _, n := range []int{0, 1, 32, 63, 65, 127, 128, 4096} {
		expectErrno(t, "Write", d.Write(1, strings.Repeat("a", n)), api.ErrArg)
	}
	if d.Loose() != 0 {
		t.Errorf("Loose = %d", d.Loose())
	}
	expect(t, "after rejected writes", d, []string{"", ""}, []string{"", ""})
}

func TestSettle(t *testing.T) {
	d := newDrum(t, 3)
	expectErrno(t, "Settle of nothing", d.Settle(), api.OK)
	write(t, d, "0a", "1b", "0c", "1d", "1b")
	expectErrno(t, "Settle", d.Settle(), api.OK)
	expect(t, "after Settle", d, []string{"c", "b", ""}, []string{"c", "b", ""})
	if d.Loose() != 0 {
		t.Errorf("Loose = %d", d.Loose())
	}
	write(t, d, "2e", "0f")
	expectErrno(t, "Settle", d.Settle(), api.OK)
	expectErrno(t, "Settle of nothing", d.Settle(), api.OK)
	expect(t, "after two more", d, []string{"f", "b", "e"}, []string{"f", "b", "e"})
	d.Crash([]int{0, 1, 2, 3, 4})
	expect(t, "after a crash", d, []string{"f", "b", "e"}, []string{"f", "b", "e"})
}

// TestCallsThatDoNotChange has all calls that only tell, and those that are rejected.
func TestCallsThatDoNotChange(t *testing.T) {
	d := newDrum(t, 2)
	write(t, d, "0a")
	d.Settle()
	write(t, d, "0b", "1c")
	d.Arm(2)
	for range 5 {
		d.Read(0)
		d.Read(2)
		d.Sure(1)
		d.Loose()
		d.Size()
		d.Down()
		d.Copy()
		d.Write(2, full("d"))
		d.Write(0, "d")
		d.Arm(-1)
	}
	expect(t, "afterwards", d, []string{"b", "c"}, []string{"a", ""})
	if d.Loose() != 2 || d.Down() {
		t.Errorf("Loose = %d, Down = %v", d.Loose(), d.Down())
	}
	write(t, d, "1e")
	expectErrno(t, "Settle", d.Settle(), api.OK)
	expectErrno(t, "the third call", d.Settle(), api.ErrDown)
	expectSure(t, "afterwards", d, []string{"b", "e"})
}

func TestNilAndZeroDrums(t *testing.T) {
	for what, d := range map[string]*drum.Drum{"nil": nil, "zero": {}} {
		for range 2 {
			for _, i := range []int{0, 1, -1, 4096} {
				if s, e := d.Read(i); s != "" || e != api.ErrNil {
					t.Errorf("%s: Read(%d) = %q, %d", what, i, s, e)
				}
				if s := d.Sure(i); s != "" {
					t.Errorf("%s: Sure(%d) = %q", what, i, s)
				}
				expectErrno(t, what+": Write", d.Write(i, full("a")), api.ErrNil)
				expectErrno(t, what+": Write of too few bytes", d.Write(i, "a"), api.ErrNil)
				expectErrno(t, what+": Arm", d.Arm(i), api.ErrNil)
			}
			expectErrno(t, what+": Settle", d.Settle(), api.ErrNil)
			expectErrno(t, what+": Crash", d.Crash(nil), api.ErrNil)
			expectErrno(t, what+": Crash", d.Crash([]int{0, -1}), api.ErrNil)
			if d.Loose() != 0 || d.Size() != 0 || d.Down() || d.Copy() != nil {
				t.Errorf("%s: Loose = %d, Size = %d, Down = %v, Copy = %v", what, d.Loose(), d.Size(), d.Down(), d.Copy())
			}
		}
	}
}
