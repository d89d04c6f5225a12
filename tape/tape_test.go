package tape_test

import (
	"math"
	"slices"
	"strings"
	"testing"

	"fasti/api"
	"fasti/drum"
	"fasti/tape"
)

func newDrum(t *testing.T, n int) *drum.Drum {
	t.Helper()
	d, e := drum.New(n)
	if d == nil || e != api.OK {
		t.Fatalf("New(%d) = %v, %d", n, d, e)
	}
	return d
}

// open returns the tape of a drum, which must have these records.
func open(t *testing.T, d *drum.Drum, records ...string) *tape.Tape {
	t.Helper()
	a, l, e := tape.Open(d)
	if a == nil || e != api.OK || !slices.Equal(l, records) {
		t.Fatalf("Open = %v, %q, %d, want %q", a, l, e, records)
	}
	return a
}

// expectTape has Open return a tape with these records, this room and this epoch.
func expectTape(t *testing.T, d *drum.Drum, records []string, room, life int) {
	t.Helper()
	a := open(t, d, records...)
	expectCounts(t, "after Open", a, len(records), room, life)
}

func expectCounts(t *testing.T, what string, a *tape.Tape, records, room, life int) {
	t.Helper()
	if a.Len() != records || a.Room() != room || a.Life() != life {
		t.Fatalf("%s: Len %d, Room %d, Life %d, want %d, %d, %d", what, a.Len(), a.Room(), a.Life(), records, room, life)
	}
}

func expectErrno(t *testing.T, what string, got, want api.Errno) {
	t.Helper()
	if got != want {
		t.Fatalf("%s = %d, want %d", what, got, want)
	}
}

// add appends records, each of which must find room.
func add(t *testing.T, a *tape.Tape, records ...string) {
	t.Helper()
	for _, s := range records {
		expectErrno(t, "Append", a.Append(s), api.OK)
	}
}

func settle(t *testing.T, a *tape.Tape) {
	t.Helper()
	expectErrno(t, "Settle", a.Settle(), api.OK)
}

// expectSectors has the visible contents of the first sectors, and no more than
// zeros after them.
func expectSectors(t *testing.T, d *drum.Drum, want ...plain) {
	t.Helper()
	for i := range d.Size() {
		text := strings.Repeat("\x00", 64)
		if i < len(want) {
			text = want[i].text()
		}
		if s, e := d.Read(i); s != text || e != api.OK {
			t.Errorf("Read(%d) = %q, %d, want %q", i, s, e, text)
		}
	}
}

func TestOneSector(t *testing.T) {
	d := newDrum(t, 1)
	add(t, open(t, d), "\x02a")
	sum := 4*1 + 8*1 + 11*130 + 12*2 + 13*97
	want := "\x00\x00\x00\x01\x00\x00\x00\x01\x00\x00\x82\x02a" + strings.Repeat("\x00", 49) + string([]byte{byte(sum >> 8), byte(sum)})
	if s, e := d.Read(0); s != want || e != api.OK {
		t.Errorf("Read(0) = %q, %d, want %q", s, e, want)
	}
}

func TestSectorsOfRecords(t *testing.T) {
	d := newDrum(t, 12)
	a := open(t, d)
	add(t, a, "x", "", strings.Repeat("a", 50), strings.Repeat("b", 51), strings.Repeat("c", 51)+"d")
	add(t, a, strings.Repeat("e", 51)+strings.Repeat("f", 51), "\xff\x00\x80\x00")
	expectSectors(t, d,
		one(1, 1, "x"),
		one(1, 2, ""),
		one(1, 3, strings.Repeat("a", 50)),
		one(1, 4, strings.Repeat("b", 51)),
		inner(1, 5, 0, "c"), outer(1, 5, 1, "d"),
		inner(1, 6, 0, "e"), outer(1, 6, 1, strings.Repeat("f", 51)),
		one(1, 7, "\xff\x00\x80\x00"),
	)
	expectCounts(t, "after Append", a, 7, 3, 1)
}

// TestChecksumIsReduced has a record whose weighted sum exceeds the modulus.
func TestChecksumIsReduced(t *testing.T) {
	for n := range 52 {
		s := strings.Repeat("\xff", n)
		d := newDrum(t, 1)
		add(t, open(t, d), s)
		expectSectors(t, d, one(1, 1, s))
		expectTape(t, d, []string{s}, 0, 2)
	}
}

func TestNextLife(t *testing.T) {
	d := newDrum(t, 8)
	add(t, open(t, d), "a", strings.Repeat("b", 60))
	b := open(t, d, "a", strings.Repeat("b", 60))
	expectCounts(t, "after Open", b, 2, 5, 2)
	add(t, b, "c")
	expectCounts(t, "after Append", b, 3, 4, 2)
	expectSectors(t, d, one(1, 1, "a"), inner(1, 2, 0, "b"), outer(1, 2, 1, "bbbbbbbbb"), one(2, 3, "c"))
	expectTape(t, d, []string{"a", strings.Repeat("b", 60), "c"}, 4, 3)
}

func TestLastLife(t *testing.T) {
	d := drumOf(t, append(texts(one(1<<32-2, 1, "a")), strings.Repeat("\x00", 64)))
	a := open(t, d, "a")
	expectCounts(t, "after Open", a, 1, 1, 1<<32-1)
	add(t, a, "b")
	expectSectors(t, d, one(1<<32-2, 1, "a"), one(1<<32-1, 2, "b"))
	if a, l, e := tape.Open(d); a != nil || len(l) != 0 || e != api.ErrBig {
		t.Errorf("Open = %v, %q, %d", a, l, e)
	}
	if l, n, life, e := tape.Scan(d); !slices.Equal(l, []string{"a", "b"}) || n != 2 || life != 1<<32-1 || e != api.OK {
		t.Errorf("Scan = %q, %d, %d, %d", l, n, life, e)
	}
	d = drumOf(t, texts(one(1, 1, "a"), one(7, 7, ""), one(1<<32-1, 9, "")))
	if a, l, e := tape.Open(d); a != nil || len(l) != 0 || e != api.ErrBig {
		t.Errorf("Open after a late sector = %v, %q, %d", a, l, e)
	}
}

func TestLargeRecord(t *testing.T) {
	const most = 4096 * 51
	s := strings.Repeat("0123456789", most/10+1)[:most]
	d := newDrum(t, 4096)
	a := open(t, d)
	expectErrno(t, "Append of a byte too many", a.Append(s+"x"), api.ErrFull)
	add(t, a, s)
	expectCounts(t, "after Append", a, 1, 0, 1)
	settle(t, a)
	expectTape(t, d, []string{s}, 0, 2)
	want := plain{life: 1, record: 1, part: 4095, mark: 128 + 51, data: s[most-51:]}
	if s, _ := d.Read(4095); s != want.text() {
		t.Errorf("Read(4095) = %q, want %q", s, want.text())
	}
}

func TestManyRecords(t *testing.T) {
	d := newDrum(t, 4096)
	a := open(t, d)
	var l []string
	for i := range 4096 {
		l = append(l, strings.Repeat("r", i%52))
		add(t, a, l[i])
	}
	expectErrno(t, "Append to a full drum", a.Append(""), api.ErrFull)
	settle(t, a)
	expectTape(t, d, l, 0, 2)
	if s, _ := d.Read(4095); s != one(1, 4096, l[4095]).text() {
		t.Errorf("Read(4095) = %q", s)
	}
}

func TestFull(t *testing.T) {
	d := newDrum(t, 4)
	a := open(t, d)
	add(t, a, "a")
	for _, n := range []int{3*51 + 1, 4 * 51, 1000, 1 << 20} {
		expectErrno(t, "Append of a long record", a.Append(strings.Repeat("x", n)), api.ErrFull)
		expectCounts(t, "after ErrFull", a, 1, 3, 1)
	}
	expectSectors(t, d, one(1, 1, "a"))
	if d.Loose() != 1 {
		t.Errorf("Loose = %d", d.Loose())
	}
	add(t, a, strings.Repeat("b", 3*51))
	expectCounts(t, "at the end", a, 2, 0, 1)
	expectErrno(t, "Append without room", a.Append(""), api.ErrFull)
	settle(t, a)
	expectErrno(t, "Append without room", a.Append("x"), api.ErrFull)
	settle(t, a)
	expectTape(t, d, []string{"a", strings.Repeat("b", 3*51)}, 0, 2)
}

// TestFullOfOldSectors has room where a former life has left sectors.
func TestFullOfOldSectors(t *testing.T) {
	d := drumOf(t, texts(one(1, 2, "x"), one(1, 3, "y")))
	a := open(t, d)
	expectCounts(t, "after Open", a, 0, 2, 2)
	add(t, a, "a")
	expectSectors(t, d, one(2, 1, "a"), one(1, 3, "y"))
	add(t, a, "b")
	expectSectors(t, d, one(2, 1, "a"), one(2, 2, "b"))
	expectErrno(t, "Append without room", a.Append(""), api.ErrFull)
}

func TestSettle(t *testing.T) {
	d := newDrum(t, 4)
	a := open(t, d)
	settle(t, a)
	add(t, a, "a", strings.Repeat("b", 60))
	if d.Loose() != 3 {
		t.Errorf("Loose = %d before Settle", d.Loose())
	}
	settle(t, a)
	if d.Loose() != 0 || d.Sure(0) != one(1, 1, "a").text() || d.Sure(2) != outer(1, 2, 1, "bbbbbbbbb").text() {
		t.Errorf("Settle leaves %d writes, and %q, %q", d.Loose(), d.Sure(0), d.Sure(2))
	}
	expectCounts(t, "after Settle", a, 2, 1, 1)
}

// TestOpenWritesNothing has a fuse that a single write would burn.
func TestOpenWritesNothing(t *testing.T) {
	d := newDrum(t, 3)
	a := open(t, d)
	add(t, a, "a")
	expectErrno(t, "Arm", d.Arm(0), api.OK)
	before := d.Copy()
	for range 3 {
		expectTape(t, d, []string{"a"}, 2, 2)
		if _, _, _, e := tape.Scan(d); e != api.OK {
			t.Errorf("Scan = %d", e)
		}
	}
	for i := range 3 {
		x, _ := d.Read(i)
		y, _ := before.Read(i)
		if x != y || d.Sure(i) != before.Sure(i) {
			t.Errorf("sector %d was %q, and is %q", i, y, x)
		}
	}
	if d.Loose() != 1 || d.Down() {
		t.Errorf("Loose = %d, Down = %v", d.Loose(), d.Down())
	}
}

func TestNeed(t *testing.T) {
	for n, want := range map[int]int{
		math.MinInt: 1, -52: 1, -1: 1, 0: 1, 1: 1, 50: 1, 51: 1, 52: 2, 101: 2, 102: 2, 103: 3,
		51 * 4096: 4096, 51*4096 + 1: 4097, 1 << 31: 42107523,
		math.MaxInt: math.MaxInt/51 + 1, math.MaxInt - math.MaxInt%51: math.MaxInt / 51,
	} {
		if k := tape.Need(n); k != want {
			t.Errorf("Need(%d) = %d, want %d", n, k, want)
		}
	}
	for n := 1; n < 1000; n++ {
		if k := tape.Need(n); k*51 < n || (k-1)*51 >= n {
			t.Errorf("Need(%d) = %d", n, k)
		}
	}
}

func TestNilTape(t *testing.T) {
	for _, a := range []*tape.Tape{nil, {}} {
		for range 2 {
			expectErrno(t, "Append", a.Append("x"), api.ErrNil)
			expectErrno(t, "Append of a long record", a.Append(strings.Repeat("x", 1<<20)), api.ErrNil)
			expectErrno(t, "Settle", a.Settle(), api.ErrNil)
			expectCounts(t, "without Open", a, 0, 0, 0)
		}
	}
}

// TestResultsAreIndependent changes the list of one call.
func TestResultsAreIndependent(t *testing.T) {
	d := newDrum(t, 4)
	add(t, open(t, d), "a", "b")
	_, l, _ := tape.Open(d)
	k, _, _, _ := tape.Scan(d)
	l[0], k[1] = "x", "y"
	a := open(t, d, "a", "b")
	add(t, a, "c")
	open(t, d, "a", "b", "c")
	if l[0] != "x" || l[1] != "b" || k[0] != "a" || k[1] != "y" {
		t.Errorf("the lists have become %q and %q", l, k)
	}
}

// TestTwoTapes has each tape count its own records only.
func TestTwoTapes(t *testing.T) {
	d, c := newDrum(t, 4), newDrum(t, 2)
	a, b, x := open(t, d), open(t, d), open(t, c)
	add(t, a, "a", "b")
	expectCounts(t, "another tape of the drum", b, 0, 4, 1)
	expectCounts(t, "the tape of another drum", x, 0, 2, 1)
	add(t, x, "x")
	expectCounts(t, "the tape", a, 2, 2, 1)
	open(t, d, "a", "b")
	open(t, c, "x")
}
