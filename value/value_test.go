package value_test

import (
	"math"
	"math/rand"
	"slices"
	"strconv"
	"strings"
	"testing"
	"unicode/utf8"

	"fasti/api"
	"fasti/value"
)

func num(n int) api.Value     { return api.Value{Kind: api.VNum, N: n} }
func text(s string) api.Value { return api.Value{Kind: api.VText, S: s} }

// validStrings and invalidStrings are at the edges of UTF-8.
func validStrings() map[string]int {
	return map[string]int{
		"":                     0,
		"a":                    1,
		"\x00\n\x7f\"\\":       5,
		"\u0080\u009f\u00fc":   3,
		"\u07ff\u0800":         2,
		"\ud7ff\ue000\uffff":   3,
		"\U00010000\U0010ffff": 2,
		"\ufffd":               1,
		"a\ufffd\ufffdb":       4,
		"a\u20ac\U0001f600":    3,
	}
}

func invalidStrings() []string {
	return []string{
		"\x80", "\xbf", "\xff", "\xfe", "a\xffb", "a\xc3",
		"\xc0\x80", "\xc1\xbf", "\xe0\x9f\xbf", "\xf0\x8f\xbf\xbf", // longer than need be
		"\xed\xa0\x80", "\xed\xbf\xbf", // d800 and dfff
		"\xf4\x90\x80\x80", "\xf7\xbf\xbf\xbf", "\xf8\x88\x80\x80\x80", // above 10ffff
		"\xe2\x82", "\xf0\x9f\x98", "\xe2\x82a", "\ufffd\xef\xbf", "\ufffd\xff", "\xef\xbf\xbe\xbd",
	}
}

func TestRunes(t *testing.T) {
	for s, want := range validStrings() {
		if n := value.Runes(s); n != want {
			t.Errorf("Runes(%q) = %d, want %d", s, n, want)
		}
	}
	for _, s := range invalidStrings() {
		if n := value.Runes(s); n != -1 {
			t.Errorf("Runes(%q) = %d, want -1", s, n)
		}
	}
	if n := value.Runes(strings.Repeat("\u00fc", 100000)); n != 100000 {
		t.Errorf("Runes of a long string = %d", n)
	}
}

// TestRunesOfAllPairs compares with the library for every string of two bytes behind a lead byte.
func TestRunesOfAllPairs(t *testing.T) {
	for _, lead := range []string{"", "\xe0", "\xed", "\xef", "\xf0\x90", "\xf4\x8f"} {
		for i := range 1 << 16 {
			s := lead + string([]byte{byte(i >> 8), byte(i)})
			want := -1
			if utf8.ValidString(s) {
				want = utf8.RuneCountInString(s)
			}
			if n := value.Runes(s); n != want {
				t.Fatalf("Runes(%q) = %d, want %d", s, n, want)
			}
		}
	}
}

func validValues() []api.Value {
	l := []api.Value{num(0), num(1), num(-1), num(math.MaxInt), num(math.MinInt),
		text(strings.Repeat("a", api.MaxText)), text(strings.Repeat("\u00fc", api.MaxText/2)), text(strings.Repeat("\x01", api.MaxText))}
	for s := range validStrings() {
		l = append(l, text(s))
	}
	return l
}

func invalidValues() []api.Value {
	l := []api.Value{
		{}, {Kind: api.VNone, N: 1}, {Kind: api.VNone, S: "a"}, {Kind: -1}, {Kind: 3}, {Kind: 3, S: "a"},
		{Kind: api.VNum, S: "a"}, {Kind: api.VNum, N: 1, S: "\xff"},
		{Kind: api.VText, N: 1}, {Kind: api.VText, N: -1, S: "a"},
		text(strings.Repeat("a", api.MaxText+1)),
		text(strings.Repeat("\u00fc", api.MaxText/2) + "a"),
		text(strings.Repeat("a", api.MaxText-1) + "\xc3"),
	}
	for _, s := range invalidStrings() {
		l = append(l, text(s))
	}
	return l
}

func TestCheck(t *testing.T) {
	for _, v := range validValues() {
		if e := value.Check(v); e != api.OK {
			t.Errorf("Check(%#v) = %d, want OK", v, e)
		}
	}
	for _, v := range invalidValues() {
		if e := value.Check(v); e != api.ErrArg {
			t.Errorf("Check(%#v) = %d, want ErrArg", v, e)
		}
	}
}

// ascending lists values in their order, each of them once.
func ascending() []api.Value {
	return []api.Value{
		{Kind: math.MinInt}, {Kind: -1, N: 5}, {}, {N: 1}, {N: 1, S: "a"}, {N: 2},
		num(math.MinInt), num(-1), num(0), {Kind: api.VNum, S: "a"}, num(1), num(math.MaxInt),
		{Kind: api.VText, N: -1, S: "z"},
		text(""), text("\x00"), text("A"), text("a"), text("a\x00"), text("aa"), text("b"), text("z"),
		text("\u00fc"), text("\ufffd"), text("\U00010000"), text("\xff"), text("\xff\xff"),
		{Kind: api.VText, N: 1}, {Kind: 3}, {Kind: math.MaxInt, N: math.MinInt},
	}
}

func TestCmp(t *testing.T) {
	l := ascending()
	for i, a := range l {
		for k, b := range l {
			want := 0
			if i < k {
				want = -1
			} else if i > k {
				want = 1
			}
			if c := value.Cmp(a, b); c != want {
				t.Errorf("Cmp(%#v, %#v) = %d, want %d", a, b, c, want)
			}
		}
	}
}

func TestCmpIsTotalOrder(t *testing.T) {
	l := append(append(ascending(), validValues()...), invalidValues()...)
	for _, a := range l {
		for _, b := range l {
			ab := value.Cmp(a, b)
			if (ab == 0) != (a == b) {
				t.Errorf("Cmp(%#v, %#v) = %d", a, b, ab)
			}
			if ba := value.Cmp(b, a); ba != -ab {
				t.Errorf("Cmp of %#v and %#v is %d, reversed %d", a, b, ab, ba)
			}
			for _, c := range l {
				if ab <= 0 && value.Cmp(b, c) <= 0 && value.Cmp(a, c) > 0 {
					t.Fatalf("%#v, %#v and %#v are in no order", a, b, c)
				}
			}
		}
	}
}

func TestTextOfIntegers(t *testing.T) {
	l := []int{0, 1, -1, 7, -7, 9, 10, -10, 99, 100, 101, 1000000, -1000000, math.MaxInt, math.MaxInt - 1, math.MinInt, math.MinInt + 1}
	for n := range 2000 {
		l = append(l, n-1000)
	}
	for _, n := range l {
		if s, e := value.Text(num(n)); s != strconv.Itoa(n) || e != api.OK {
			t.Errorf("Text(%d) = %q, %d", n, s, e)
		}
	}
}

func TestTextOfStrings(t *testing.T) {
	for s, want := range map[string]string{
		"":                   `""`,
		"a":                  `"a"`,
		"a\n":                `"a\n"`,
		`"\`:                 `"\"\\"`,
		"\x00\x09\x0b\x1f":   `"\x00\x09\x0b\x1f"`,
		"\r\t\x1b\x7f ~":     `"\x0d\x09\x1b\x7f ~"`,
		"'/`":                "\"'/`\"",
		"\u0080\u00fc\ufffd": "\"\u0080\u00fc\ufffd\"",
		"\U0010ffff\u2028":   "\"\U0010ffff\u2028\"",
	} {
		if got, e := value.Text(text(s)); got != want || e != api.OK {
			t.Errorf("Text(%q) = %s, %d, want %s", s, got, e, want)
		}
		if got, e := value.Quote(s); got != want || e != api.OK {
			t.Errorf("Quote(%q) = %s, %d, want %s", s, got, e, want)
		}
	}
}

// TestTextOfEachByte checks the exceptions among all code points of one byte.
func TestTextOfEachByte(t *testing.T) {
	for c := range 128 {
		want := `"` + string(rune(c)) + `"`
		switch {
		case c == '"' || c == '\\':
			want = `"\` + string(rune(c)) + `"`
		case c == 10:
			want = `"\n"`
		case c < 16:
			want = `"\x0` + strconv.FormatInt(int64(c), 16) + `"`
		case c < 32 || c == 127:
			want = `"\x` + strconv.FormatInt(int64(c), 16) + `"`
		}
		if got, e := value.Quote(string(rune(c))); got != want || e != api.OK {
			t.Errorf("Quote of %d = %s, %d, want %s", c, got, e, want)
		}
	}
}

func TestTextOfWrongValues(t *testing.T) {
	for _, v := range invalidValues() {
		if s, e := value.Text(v); s != "" || e != api.ErrArg {
			t.Errorf("Text(%#v) = %q, %d, want ErrArg", v, s, e)
		}
	}
}

func TestQuoteOfWrongStrings(t *testing.T) {
	for _, s := range invalidStrings() {
		if q, e := value.Quote(s); q != "" || e != api.ErrArg {
			t.Errorf("Quote(%q) = %q, %d, want ErrArg", s, q, e)
		}
	}
}

func TestQuoteOfAnyLength(t *testing.T) {
	for _, n := range []int{api.MaxText, api.MaxText + 1, 100000} {
		s := strings.Repeat("\n", n)
		if q, e := value.Quote(s); q != `"`+strings.Repeat(`\n`, n)+`"` || e != api.OK {
			t.Errorf("Quote of %d line ends: %d bytes, %d", n, len(q), e)
		}
	}
	if q, e := value.Quote(strings.Repeat("a", 1000) + "\xff"); q != "" || e != api.ErrArg {
		t.Errorf("Quote of a long wrong string = %q, %d", q, e)
	}
}

func TestOrderOfSortedValues(t *testing.T) {
	l := ascending()
	got := slices.Clone(l)
	rand.New(rand.NewSource(1)).Shuffle(len(got), func(i, k int) { got[i], got[k] = got[k], got[i] })
	slices.SortFunc(got, value.Cmp)
	if !slices.Equal(got, l) {
		t.Errorf("sorted: %#v", got)
	}
}
