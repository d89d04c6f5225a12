package tape_test

import (
	"slices"
	"strings"
	"testing"

	"fasti/api"
	"fasti/drum"
	"fasti/tape"
)

// scanned is what Scan returns.
type scanned struct {
	records         []string
	occupied, epoch int
}

func expectScan(t *testing.T, what string, d *drum.Drum, want scanned) {
	t.Helper()
	l, n, life, e := tape.Scan(d)
	if !slices.Equal(l, want.records) || n != want.occupied || life != want.epoch || e != api.OK {
		t.Errorf("%s: Scan = %q, %d, %d, %d, want %q, %d, %d", what, l, n, life, e, want.records, want.occupied, want.epoch)
	}
}

func expectNoScan(t *testing.T, what string, d *drum.Drum, want api.Errno) {
	t.Helper()
	if l, n, life, e := tape.Scan(d); len(l) != 0 || n != 0 || life != 0 || e != want {
		t.Errorf("%s: Scan = %q, %d, %d, %d, want %d", what, l, n, life, e, want)
	}
	if a, l, e := tape.Open(d); a != nil || len(l) != 0 || e != want {
		t.Errorf("%s: Open = %v, %q, %d, want %d", what, a, l, e, want)
	}
}

func TestScanErrors(t *testing.T) {
	expectNoScan(t, "nil drum", nil, api.ErrNil)
	expectNoScan(t, "zero drum", &drum.Drum{}, api.ErrNil)
	d := drumOf(t, texts(one(3, 1, "a"), one(1<<32-1, 1, "b")))
	d.Arm(0)
	expectErrno(t, "Settle", d.Settle(), api.ErrDown)
	expectNoScan(t, "power off", d, api.ErrDown)
	d.Crash(nil)
	expectScan(t, "power on", d, scanned{[]string{"a"}, 1, 1<<32 - 1})
}

func TestScanEmpty(t *testing.T) {
	for _, n := range []int{1, 2, 4096} {
		expectScan(t, "zeros", newDrum(t, n), scanned{})
		expectTape(t, newDrum(t, n), nil, n, 1)
	}
}

func TestScanSeesPendingWrites(t *testing.T) {
	d := drumOf(t, texts(one(1, 1, "a"), one(1, 2, "b")))
	d.Write(1, one(4, 2, "c").text())
	expectScan(t, "pending", d, scanned{[]string{"a", "c"}, 2, 4})
	d.Crash(nil)
	expectScan(t, "lost", d, scanned{[]string{"a", "b"}, 2, 1})
}

// TestScanValidity has a first sector that is wrong in one way each: then there
// are no records, and its epoch, 9, does not count either.
func TestScanValidity(t *testing.T) {
	full := strings.Repeat("x", 51)
	wrong := map[string]plain{
		"epoch 0":                      {record: 1, mark: 129, data: "x"},
		"checksum one more":            {life: 9, record: 1, mark: 129, data: "x", off: 1},
		"checksum one less":            {life: 9, record: 1, mark: 129, data: "x", off: 1<<16 - 1},
		"checksum of another high":     {life: 9, record: 1, mark: 129, data: "x", off: 256},
		"52 data bytes":                {life: 9, record: 1, mark: 128 + 52, data: full},
		"53 data bytes":                {life: 9, record: 1, mark: 128 + 53, data: full},
		"64 data bytes":                {life: 9, record: 1, mark: 128 + 64, data: full},
		"127 data bytes":               {life: 9, record: 1, mark: 255, data: full},
		"52 data bytes, not last":      {life: 9, record: 1, mark: 52, data: full},
		"127 data bytes, not last":     {life: 9, record: 1, mark: 127, data: full},
		"a byte after no data":         {life: 9, record: 1, mark: 128, data: "x"},
		"a byte after the data":        {life: 9, record: 1, mark: 129, data: "xy"},
		"the last byte after the data": {life: 9, record: 1, mark: 128 + 50, data: full},
		"a byte far after the data":    {life: 9, record: 1, mark: 129, data: "x" + strings.Repeat("\x00", 49) + "\x01"},
		"50 data bytes, not last":      {life: 9, record: 1, mark: 50, data: full[:50]},
		"no data bytes, not last":      {life: 9, record: 1},
	}
	for what, p := range wrong {
		d := drumOf(t, texts(p, one(2, 2, "y"), outer(2, 1, 1, "z"), one(2, 1, "v")))
		expectScan(t, what, d, scanned{nil, 0, 2})
	}
}

// TestScanChangedByte has every single changed byte make a sector invalid, also
// where it is the checksum that changes.
func TestScanChangedByte(t *testing.T) {
	right := one(9, 1, "abc").text()
	for i := range right {
		for _, by := range []byte{1, 2, 128, 255} {
			b := []byte(right)
			b[i] += by
			expectScan(t, "changed byte", drumOf(t, []string{string(b)}), scanned{})
		}
	}
	expectScan(t, "unchanged", drumOf(t, []string{right}), scanned{[]string{"abc"}, 1, 9})
}

// TestScanChecksumModulus has a checksum that is equal to the right one modulo
// 65521 only, which two bytes can hold if the right one is less than 15.
func TestScanChecksumModulus(t *testing.T) {
	for i := range 1 << 16 {
		p := one(9, 1, strings.Repeat("\xff", 40)+string([]byte{byte(i >> 8), byte(i)}))
		if modelSum([]byte(p.text())) < 15 {
			expectScan(t, "small checksum", drumOf(t, texts(p)), scanned{[]string{p.data}, 1, 9})
			p.off = 65521
			expectScan(t, "large checksum", drumOf(t, texts(p)), scanned{})
			return
		}
	}
	t.Error("no sector has a small checksum")
}

func TestScanComplete(t *testing.T) {
	a, long := strings.Repeat("a", 51), strings.Repeat("a", 51)+strings.Repeat("b", 51)
	cases := []struct {
		what    string
		sectors []plain
		want    scanned
	}{
		{"one record", []plain{one(1, 1, "x")}, scanned{[]string{"x"}, 1, 1}},
		{"an empty record", []plain{one(1, 1, "")}, scanned{[]string{""}, 1, 1}},
		{"two sectors", []plain{inner(1, 1, 0, "a"), outer(1, 1, 1, "c")}, scanned{[]string{a + "c"}, 2, 1}},
		{"three sectors", []plain{inner(1, 1, 0, "a"), inner(1, 1, 1, "b"), outer(1, 1, 2, "c")}, scanned{[]string{long + "c"}, 3, 1}},
		{"a last sector without data", []plain{inner(1, 1, 0, "a"), outer(1, 1, 1, ""), one(1, 2, "x")}, scanned{[]string{a, "x"}, 3, 1}},
		{"a full last sector", []plain{one(1, 1, a), one(1, 2, "x")}, scanned{[]string{a, "x"}, 2, 1}},
		{"no last sector", []plain{one(1, 1, "x"), inner(1, 2, 0, "a"), inner(1, 2, 1, "b")}, scanned{[]string{"x"}, 1, 1}},
		{"not even one", []plain{inner(4, 1, 0, "a")}, scanned{nil, 0, 4}},
		{"a gap", []plain{one(1, 1, "x"), {}, one(1, 2, "y")}, scanned{[]string{"x"}, 1, 1}},
		{"a gap in a record", []plain{inner(1, 1, 0, "a"), {}, outer(1, 1, 1, "c")}, scanned{nil, 0, 1}},
		{"a gap at the front", []plain{{}, one(1, 1, "x")}, scanned{nil, 0, 1}},
		{"from record 0", []plain{one(1, 0, "x"), one(1, 1, "y")}, scanned{nil, 0, 1}},
		{"from record 2", []plain{one(1, 2, "x")}, scanned{nil, 0, 1}},
		{"a record twice", []plain{one(1, 1, "x"), one(1, 1, "y"), one(1, 2, "z")}, scanned{[]string{"x"}, 1, 1}},
		{"a record left out", []plain{one(1, 1, "x"), one(1, 3, "y")}, scanned{[]string{"x"}, 1, 1}},
		{"another record inside", []plain{inner(1, 1, 0, "a"), outer(1, 2, 1, "c")}, scanned{nil, 0, 1}},
		{"a high record number", []plain{one(1, 1+1<<16, "x")}, scanned{nil, 0, 1}},
		{"from part 1", []plain{outer(1, 1, 1, "x")}, scanned{nil, 0, 1}},
		{"a high part number", []plain{outer(1, 1, 256, "x")}, scanned{nil, 0, 1}},
		{"part 0 twice", []plain{inner(1, 1, 0, "a"), outer(1, 1, 0, "c")}, scanned{nil, 0, 1}},
		{"part 1 left out", []plain{inner(1, 1, 0, "a"), outer(1, 1, 2, "c")}, scanned{nil, 0, 1}},
		{"a part after the last", []plain{one(1, 1, a), outer(1, 1, 1, "c")}, scanned{[]string{a}, 1, 1}},
		{"a record after an unfinished one", []plain{inner(1, 1, 0, "a"), one(1, 1, "x"), one(1, 2, "y")}, scanned{nil, 0, 1}},
	}
	for _, c := range cases {
		expectScan(t, c.what, drumOf(t, texts(c.sectors...)), c.want)
	}
}

func TestScanEpochs(t *testing.T) {
	a := strings.Repeat("a", 51)
	cases := []struct {
		what    string
		sectors []plain
		want    scanned
	}{
		{"the same", []plain{one(3, 1, "x"), one(3, 2, "y")}, scanned{[]string{"x", "y"}, 2, 3}},
		{"growing", []plain{one(1, 1, "x"), one(2, 2, "y"), one(9, 3, "z")}, scanned{[]string{"x", "y", "z"}, 3, 9}},
		{"less by one", []plain{one(1, 1, "x"), one(5, 2, "y"), one(4, 3, "z")}, scanned{[]string{"x", "y"}, 2, 5}},
		{"less, then greater", []plain{one(3, 1, "x"), one(2, 2, "y"), one(4, 3, "z")}, scanned{[]string{"x"}, 1, 4}},
		{"greater than the last, less than the first", []plain{one(3, 1, "x"), one(1, 2, "y"), one(2, 3, "z")}, scanned{[]string{"x"}, 1, 3}},
		{"greater inside a record", []plain{inner(1, 1, 0, "a"), outer(2, 1, 1, "c")}, scanned{nil, 0, 2}},
		{"less inside a record", []plain{inner(2, 1, 0, "a"), outer(1, 1, 1, "c")}, scanned{nil, 0, 2}},
		{"growing before a long record", []plain{one(1, 1, "x"), inner(2, 2, 0, "a"), outer(2, 2, 1, "c")}, scanned{[]string{"x", a + "c"}, 3, 2}},
		{"less before a long record", []plain{one(3, 1, "x"), inner(2, 2, 0, "a"), outer(2, 2, 1, "c")}, scanned{[]string{"x"}, 1, 3}},
		{"after a gap", []plain{one(1, 1, "x"), {}, one(7, 40, "y"), one(5, 1, "z")}, scanned{[]string{"x"}, 1, 7}},
		{"of an unfinished record", []plain{one(1, 1, "x"), inner(6, 2, 0, "a")}, scanned{[]string{"x"}, 1, 6}},
		{"before the others", []plain{one(8, 3, "x"), one(2, 1, "y")}, scanned{nil, 0, 8}},
		{"not of an invalid sector", []plain{one(1, 1, "x"), {life: 7, record: 2, mark: 128, off: 1}}, scanned{[]string{"x"}, 1, 1}},
		{"large", []plain{one(1<<24, 1, "x"), one(1<<31, 2, "y"), one(1<<32-1, 3, "z")}, scanned{[]string{"x", "y", "z"}, 3, 1<<32 - 1}},
	}
	for _, c := range cases {
		expectScan(t, c.what, drumOf(t, texts(c.sectors...)), c.want)
	}
}
