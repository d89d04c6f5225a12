package cell_test

import (
	"math"
	"math/big"
	"math/rand"
	"strings"
	"testing"

	"fasti/api"
	"fasti/cell"
)

// randomCell returns a valid cell of at most that depth.
func randomCell(random *rand.Rand, depth int) api.Cell {
	switch kind := random.Intn(4); {
	case kind == 0:
		return cell.Num(int(random.Uint64() >> random.Intn(64)))
	case kind == 1:
		s := make([]byte, random.Intn(1<<random.Intn(10)))
		random.Read(s)
		return cell.Text(string(s))
	case depth == 1:
		return cell.List()
	}
	var l []api.Cell
	for range random.Intn(4) {
		l = append(l, randomCell(random, depth-1))
	}
	return api.Cell{Kind: api.CList, L: l}
}

// modelEncoding computes the base as an integer of any size.
func modelEncoding(c api.Cell) string {
	number, base := 0x30, big.NewInt(int64(len(c.S)))
	switch c.Kind {
	case api.CNum:
		number, base = 0x10, big.NewInt(int64(c.N))
		if c.N < 0 {
			number, base = 0x20, new(big.Int).Neg(new(big.Int).Add(base, big.NewInt(1)))
		}
	case api.CList:
		number, base = 0x40, big.NewInt(int64(len(c.L)))
	}
	s := string([]byte{byte(number + len(base.Bytes()))}) + string(base.Bytes()) + c.S
	for _, element := range c.L {
		s += modelEncoding(element)
	}
	return s
}

// modelNext returns the offset and the error of Next. It reads one cell after
// the other, and knows how many more there are in each list around the next one.
func modelNext(s string, at int) (int, api.Errno) {
	if at < 0 || at > len(s) {
		return 0, api.ErrArg
	}
	widest := map[byte]int{1: 8, 2: 8, 3: 2, 4: 2}
	greatest := map[byte]*big.Int{1: big.NewInt(math.MaxInt), 2: big.NewInt(math.MaxInt), 3: big.NewInt(65535), 4: big.NewInt(4095)}
	for more := []int{1}; len(more) > 0; {
		level := len(more)
		if more[level-1] == 0 {
			more = more[:level-1]
			continue
		}
		more[level-1]--
		if at == len(s) {
			return len(s), api.ErrShort
		}
		kind, width := s[at]>>4, int(s[at]&15)
		most, known := widest[kind]
		if !known || width > most {
			return at, api.ErrFormat
		}
		if level == 17 {
			return at, api.ErrBig
		}
		if at+1+width > len(s) {
			return len(s), api.ErrShort
		}
		base := new(big.Int).SetBytes([]byte(s[at+1 : at+1+width]))
		if len(base.Bytes()) != width || base.Cmp(greatest[kind]) > 0 {
			return at, api.ErrFormat
		}
		at += 1 + width
		switch kind {
		case 3:
			at += int(base.Int64())
			if at > len(s) {
				return len(s), api.ErrShort
			}
		case 4:
			more = append(more, int(base.Int64()))
		}
	}
	return at, api.OK
}

// compareNext compares with the model, and a cell with its bytes.
func compareNext(t *testing.T, s string, at int) {
	t.Helper()
	wantEnd, wantError := modelNext(s, at)
	c, end, e := cell.Next(s, at)
	if end != wantEnd || e != wantError {
		t.Fatalf("Next(%x, %d) = %d, %d, want %d, %d", s, at, end, e, wantEnd, wantError)
	}
	if e != api.OK {
		if !same(c, api.Cell{}) {
			t.Fatalf("Next(%x, %d) has error %d, and the cell %v", s, at, e, c)
		}
		return
	}
	if again := modelEncoding(c); cell.Check(c) != api.OK || again != s[at:end] {
		t.Fatalf("Next(%x, %d) has a cell of the encoding %x", s, at, again)
	}
}

func compareTake(t *testing.T, s string) {
	t.Helper()
	end, wantError := modelNext(s, 0)
	if wantError == api.OK && end < len(s) {
		wantError = api.ErrFormat
	}
	c, e := cell.Take(s)
	if e != wantError {
		t.Fatalf("Take(%x) = %d, want %d", s, e, wantError)
	}
	if e != api.OK && !same(c, api.Cell{}) || e == api.OK && modelEncoding(c) != s {
		t.Fatalf("Take(%x) = %v, %d", s, c, e)
	}
}

func TestNext(t *testing.T) {
	for _, c := range []struct {
		s    string
		at   int
		want api.Cell
		end  int
	}{
		{"\x10", 0, cell.Num(0), 1},
		{"\x20", 0, cell.Num(-1), 1},
		{"\x12\x01\x2c", 0, cell.Num(300), 3},
		{"\x31\x02ab", 0, cell.Text("ab"), 4},
		{"\x41\x02\x11\x01\x30", 0, cell.List(cell.Num(1), cell.Text("")), 5},
		{"\x41\x02\x11\x01\x30", 2, cell.Num(1), 4},
		{"\x41\x02\x11\x01\x30", 4, cell.Text(""), 5},
		{"\x00\x00\x40\x00", 2, cell.List(), 3},
		{"\x18\x7f\xff\xff\xff\xff\xff\xff\xff", 0, cell.Num(math.MaxInt), 9},
		{"\x28\x7f\xff\xff\xff\xff\xff\xff\xff", 0, cell.Num(math.MinInt), 9},
		{"\x21\xff\xff", 0, cell.Num(-256), 2},
		{"\x41\x01\x41\x01\x41\x01\x40\x10", 0, nested(cell.List(), 3), 7},
	} {
		got, end, e := cell.Next(c.s, c.at)
		if !same(got, c.want) || end != c.end || e != api.OK {
			t.Errorf("Next(%x, %d) = %v, %d, %d, want %v, %d", c.s, c.at, got, end, e, c.want, c.end)
		}
	}
}

func TestNextOutsideOfTheString(t *testing.T) {
	for _, s := range []string{"", "\x10", "\x00", "\x41\x02\x11\x01\x30"} {
		for _, at := range []int{-1, -2, len(s) + 1, len(s) + 2, math.MaxInt, math.MinInt} {
			if c, end, e := cell.Next(s, at); !same(c, api.Cell{}) || end != 0 || e != api.ErrArg {
				t.Errorf("Next(%x, %d) = %v, %d, %d, want 0, %d", s, at, c, end, e, api.ErrArg)
			}
		}
		if c, end, e := cell.Next(s, len(s)); !same(c, api.Cell{}) || end != len(s) || e != api.ErrShort {
			t.Errorf("Next(%x, %d) = %v, %d, %d, want %d, %d", s, len(s), c, end, e, len(s), api.ErrShort)
		}
	}
}

func TestNextErrors(t *testing.T) {
	deep := strings.Repeat("\x41\x01", 16)
	zeros, full := strings.Repeat("\x10", 5000), strings.Repeat("\xff", 8)
	for _, c := range []struct {
		s  string
		at int
		e  api.Errno
	}{
		{"", 0, api.ErrShort}, {"\x41\x01", 2, api.ErrShort}, {"\x41\x02\x10", 3, api.ErrShort}, {deep, 32, api.ErrShort}, {"\x42\x0f\xff" + zeros[:4094], 4097, api.ErrShort},
		{"\x00", 0, api.ErrFormat}, {"\x01\x01", 0, api.ErrFormat}, {"\x0f", 0, api.ErrFormat}, {"\x50", 0, api.ErrFormat}, {"\x80\x10", 0, api.ErrFormat}, {"\xf0", 0, api.ErrFormat}, {"\xff", 0, api.ErrFormat},
		{"\x19", 0, api.ErrFormat}, {"\x1f", 0, api.ErrFormat}, {"\x29", 0, api.ErrFormat}, {"\x33", 0, api.ErrFormat}, {"\x33\x01\x00\x00", 0, api.ErrFormat}, {"\x43", 0, api.ErrFormat}, {"\x4f", 0, api.ErrFormat},
		{"\x41\x01\x00", 2, api.ErrFormat}, {"\x41\x02\x10\x19", 3, api.ErrFormat}, {"\x41\x02\x00\x01", 2, api.ErrFormat},
		{deep + "\x10", 32, api.ErrBig}, {deep + "\x20", 32, api.ErrBig}, {deep + "\x30", 32, api.ErrBig}, {deep + "\x40", 32, api.ErrBig},
		{deep + "\x12", 32, api.ErrBig}, {deep + "\x11\x00", 32, api.ErrBig}, {deep + "\x42\xff\xff", 32, api.ErrBig}, {deep + "\x31\x09", 32, api.ErrBig}, // before what is wrong with the base
		{deep + "\x00", 32, api.ErrFormat}, {deep + "\x19", 32, api.ErrFormat}, {deep + "\x33", 32, api.ErrFormat}, {deep + "\x43", 32, api.ErrFormat}, // after the first byte
		{"\x41\x02" + deep[:28] + "\x40" + deep[:30], 61, api.ErrShort}, {"\x41\x02" + deep[:28] + "\x40" + deep[:30] + "\x10", 61, api.ErrBig},
		{"\x11", 1, api.ErrShort}, {"\x12\x01", 2, api.ErrShort}, {"\x18" + full[:7], 8, api.ErrShort}, {"\x21", 1, api.ErrShort}, {"\x31", 1, api.ErrShort}, {"\x32\xff", 2, api.ErrShort}, {"\x42\x0f", 2, api.ErrShort},
		{"\x12\x00", 2, api.ErrShort}, {"\x42\xff", 2, api.ErrShort}, {"\x18\x00" + full[:6], 8, api.ErrShort}, // before what is wrong with the bytes that are there
		{"\x11\x00", 0, api.ErrFormat}, {"\x12\x00\x01", 0, api.ErrFormat}, {"\x18\x00" + full[:7], 0, api.ErrFormat}, {"\x21\x00", 0, api.ErrFormat}, {"\x31\x00", 0, api.ErrFormat}, {"\x32\x00\x01a", 0, api.ErrFormat}, {"\x41\x00", 0, api.ErrFormat}, {"\x42\x00\x01\x10", 0, api.ErrFormat},
		{"\x18\x80\x00\x00\x00\x00\x00\x00\x00", 0, api.ErrFormat}, {"\x18" + full, 0, api.ErrFormat}, {"\x28\x80\x00\x00\x00\x00\x00\x00\x00", 0, api.ErrFormat}, {"\x28" + full, 0, api.ErrFormat},
		{"\x42\x10\x00", 0, api.ErrFormat}, {"\x42\x10\x00" + zeros, 0, api.ErrFormat}, {"\x42\xff\xff", 0, api.ErrFormat}, {"\x41\x01\x42\x10\x00", 2, api.ErrFormat},
		{"\x31\x01", 2, api.ErrShort}, {"\x31\x03ab", 4, api.ErrShort}, {"\x32\xff\xff" + strings.Repeat("x", 65534), 65537, api.ErrShort}, {"\x41\x01\x31\x02a", 5, api.ErrShort},
		{"\x41\x02\x31\x01\x00\x11\x00\x00", 5, api.ErrFormat}, {"\x41\x03\x10\x00\x00", 3, api.ErrFormat}, {"\x41\x02\x41\x02\x10\x31\x05abc", 10, api.ErrShort}, // the first error counts
	} {
		for _, before := range []string{"", "\x10", "\x00\x41\x05\xff"} {
			got, end, e := cell.Next(before+c.s, len(before))
			if !same(got, api.Cell{}) || end != len(before)+c.at || e != c.e {
				t.Errorf("Next(%x, %d) = %v, %d, %d, want %d, %d", before+c.s, len(before), got, end, e, len(before)+c.at, c.e)
			}
		}
		if got, e := cell.Take(c.s); !same(got, api.Cell{}) || e != c.e {
			t.Errorf("Take(%x) = %v, %d, want %d", c.s, got, e, c.e)
		}
	}
	if c, end, e := cell.Next("\x41\x02\x11\x01\x30", 3); !same(c, api.Cell{}) || end != 3 || e != api.ErrFormat {
		t.Errorf("Next inside of an integer = %v, %d, %d", c, end, e)
	}
}

func TestTake(t *testing.T) {
	for s, want := range map[string]api.Errno{
		"": api.ErrShort, "\x10": api.OK, "\x10\x10": api.ErrFormat, "\x10\x00": api.ErrFormat, "\x40\x40": api.ErrFormat, "\x31\x01ab": api.ErrFormat,
		"\x00\x10": api.ErrFormat, "\x41\x01\x10": api.OK, "\x41\x01\x10\x10": api.ErrFormat, "\x41\x02\x10": api.ErrShort,
	} {
		if c, e := cell.Take(s); e != want || e != api.OK && !same(c, api.Cell{}) {
			t.Errorf("Take(%x) = %v, %d, want %d", s, c, e, want)
		}
	}
}

func TestTakeInvertsPut(t *testing.T) {
	l := validCells()
	random := rand.New(rand.NewSource(2))
	for range 3000 {
		l = append(l, randomCell(random, 16))
	}
	for _, c := range l {
		s, e := cell.Put(c)
		if e != api.OK {
			t.Fatalf("Put(%v): %d", c, e)
		}
		if got, e := cell.Take(s); !same(got, c) || e != api.OK {
			t.Fatalf("Take(%x) = %v, %d, want %v", s, got, e, c)
		}
	}
}

// TestBytesAfterTheCell has what could be taken for more of the cell, or is wrong.
func TestBytesAfterTheCell(t *testing.T) {
	random := rand.New(rand.NewSource(3))
	l := validCells()
	for range 300 {
		l = append(l, randomCell(random, 16))
	}
	for _, c := range l {
		s := modelEncoding(c)
		for _, before := range []string{"", "\x41", "\x00\x32\xff"} {
			for _, after := range []string{"", "\x00", "\x10", "\x18", "\x43", "\xff\xff\xff", "\x41\x01", s} {
				got, end, e := cell.Next(before+s+after, len(before))
				if !same(got, c) || end != len(before)+len(s) || e != api.OK {
					t.Fatalf("Next(%x, %d) = %v, %d, %d", before+s+after, len(before), got, end, e)
				}
			}
		}
	}
}

// TestCutOff has each beginning of an encoding, which lacks only its end.
func TestCutOff(t *testing.T) {
	random := rand.New(rand.NewSource(4))
	for range 500 {
		s := modelEncoding(randomCell(random, 16))
		for n := range min(len(s), 2000) {
			if c, end, e := cell.Next(s[:n], 0); !same(c, api.Cell{}) || end != n || e != api.ErrShort {
				t.Fatalf("Next(%x, 0) = %v, %d, %d", s[:n], c, end, e)
			}
		}
	}
}

// TestAllShortStrings has all strings of up to 4 telling bytes, behind several beginnings.
func TestAllShortStrings(t *testing.T) {
	parts := []string{"\x00", "\x01", "\x02", "\x0f", "\x10", "\x11", "\x12", "\x18", "\x19", "\x20", "\x21", "\x30", "\x31", "\x32", "\x33", "\x40", "\x41", "\x42", "\x43", "\x50", "\xff"}
	seen := 0
	var visit func(s string, at, more int)
	visit = func(s string, at, more int) {
		seen++
		compareNext(t, s, at)
		if at == 0 {
			compareTake(t, s)
		}
		if more == 0 {
			return
		}
		for _, p := range parts {
			visit(s+p, at, more-1)
		}
	}
	visit("", 0, 4)
	for _, beginning := range []string{"\x41\x02", "\x41\x02\x41\x02", "\x18\x7f\xff\xff\xff\xff\xff", "\x28\x7f\xff\xff\xff\xff\xff", strings.Repeat("\x41\x01", 14), strings.Repeat("\x41\x02", 15)} {
		visit(beginning, 0, 3)
		visit("\x10"+beginning, 1, 3)
	}
	n := len(parts)
	if want := 13*(1+n+n*n+n*n*n) + n*n*n*n; seen != want {
		t.Errorf("%d strings compared, want %d", seen, want)
	}
}

// TestAllPairsOfBytes has each first byte, with each byte behind it.
func TestAllPairsOfBytes(t *testing.T) {
	for a := range 256 {
		for b := range 256 {
			pair := string([]byte{byte(a), byte(b)})
			for _, after := range []string{"", "\x10", "\x00\x00\x00\x00\x00\x00\x00", strings.Repeat("\x10", 300)} {
				compareNext(t, pair+after, 0)
				compareNext(t, "\x41\x01"+pair+after, 0)
				compareTake(t, pair+after)
			}
		}
	}
}

// TestChangedEncodings has encodings in which some bytes are others.
func TestChangedEncodings(t *testing.T) {
	random := rand.New(rand.NewSource(5))
	for range 20000 {
		s := []byte(modelEncoding(randomCell(random, 16)))
		for range random.Intn(3) {
			s[random.Intn(len(s))] = byte(random.Intn(0x50))
		}
		text := string(s)
		if random.Intn(4) == 0 {
			text += modelEncoding(randomCell(random, 16))
		}
		compareNext(t, text, 0)
		compareNext(t, text, random.Intn(len(text)+1))
		compareTake(t, text)
	}
}

func TestResultsAreApart(t *testing.T) {
	s := "\x41\x03\x41\x02\x10\x20\x30\x41\x02\x10\x20"
	want := cell.List(cell.List(cell.Num(0), cell.Num(-1)), cell.Text(""), cell.List(cell.Num(0), cell.Num(-1)))
	first, _, _ := cell.Next(s, 0)
	second, _ := cell.Take(s)
	fill(first.L[0].L, cell.Num(9))
	if !same(first.L[2], want.L[2]) {
		t.Errorf("a change of one element changed another to %v", first.L[2])
	}
	fill(first.L, cell.Num(9))
	if !same(second, want) {
		t.Errorf("a change of one result changed another to %v", second)
	}
	if third, _ := cell.Take(s); !same(third, want) {
		t.Errorf("a later result is %v", third)
	}
}
