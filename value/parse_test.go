package value_test

import (
	"math"
	"math/rand"
	"regexp"
	"strconv"
	"strings"
	"testing"
	"unicode/utf8"

	"fasti/api"
	"fasti/value"
)

type parsed struct {
	v api.Value
	n int
	e api.Errno
}

func parse(s string) parsed {
	v, n, e := value.Parse(s)
	return parsed{v, n, e}
}

func expect(t *testing.T, s string, want parsed) {
	t.Helper()
	if got := parse(s); got != want {
		t.Errorf("Parse(%q) = %#v, want %#v", s, got, want)
	}
}

func TestParse(t *testing.T) {
	for s, v := range map[string]api.Value{
		"0":                      num(0),
		"7":                      num(7),
		"-7":                     num(-7),
		"1234567890":             num(1234567890),
		"9223372036854775807":    num(math.MaxInt),
		"-9223372036854775808":   num(math.MinInt),
		`""`:                     text(""),
		`"a\n"`:                  text("a\n"),
		`"\"\\"`:                 text(`"\`),
		`"\x00\x0b\x1f\x7f"`:     text("\x00\x0b\x1f\x7f"),
		"\"\u00fc\U0010ffff\"":   text("\u00fc\U0010ffff"),
		"\"\ufffd\u0080\u2028\"": text("\ufffd\u0080\u2028"),
		`"-7"`:                   text("-7"),
	} {
		expect(t, s, parsed{v, len(s), api.OK})
	}
}

func TestParseShort(t *testing.T) {
	for _, s := range []string{
		"", "-", `"`, `"a`, `"\`, `"\x`, `"\x0`, `"\x1`, `"\x7`, `"\n`, `"\"`, `"\\`, "\"\u00fc", "\"\ufffd",
		`"` + strings.Repeat("a", 100), `"` + strings.Repeat(`\x00`, 100) + `\x`,
	} {
		expect(t, s, parsed{n: len(s), e: api.ErrShort})
	}
}

func TestParseFormat(t *testing.T) {
	for _, c := range []struct {
		s  string
		at int
	}{
		{"007", 1}, {"00", 1}, {"01", 1}, {"-0", 1}, {"-01", 1}, {"--1", 1}, {"+1", 0}, {" 1", 0}, {"1 ", 1}, {"1-", 1}, {"1.5", 1}, {"0x10", 1},
		{"1_000", 1}, {"12\u0663", 2}, {"\u0663", 0}, {"-\"", 1}, {"7\"", 1}, {"1\xff", 1}, {"-\xff", 1}, {"\xff", 0}, {"\x00", 0}, {"1\x00", 1},
		{"a", 0}, {"'a'", 0}, {"`a`", 0}, {`\"`, 0}, {`"a"b`, 3}, {`"a""`, 3}, {`"a" `, 3}, {`""1`, 2}, {"\"a\"\xff", 3},
		{`"\q"`, 2}, {`"\N"`, 2}, {`"\t"`, 2}, {`"\u00fc"`, 2}, {`"\0"`, 2}, {`"\'"`, 2}, {"\"\\\n\"", 2}, {"\"\\\u00fc\"", 2}, {"\"\\\xff\"", 2},
		{`"\x2`, 3}, {`"\x8`, 3}, {`"\xa`, 3}, {`"\xF`, 3}, {`"\x"`, 3}, {`"\xx`, 3},
		{`"\x0a`, 4}, {`"\x0A`, 4}, {`"\x0B`, 4}, {`"\x0g`, 4}, {`"\x1F`, 4}, {`"\x7e`, 4}, {`"\x70`, 4}, {`"\x7F`, 4}, {`"\x0"`, 4}, {"\"\\x0\xff", 4},
		{"\"\n\"", 1}, {"\"a\x00\"", 2}, {"\"a\x1f\"", 2}, {"\"a\x7f\"", 2}, {"\"\t", 1},
		{"\"\xff\"", 1}, {"\"a\xe2\x82", 2}, {"\"a\xe2\x82\"", 2}, {"\"\u00fc\xc3", 3}, {"\"\xc0\x80\"", 1}, {"\"\xed\xa0\x80\"", 1}, {"\"\xf4\x90\x80\x80\"", 1}, {"\"\ufffd\xff\"", 4}, {"\"\xef\xbf", 1},
		{strings.Repeat("9", 23) + "x", 23}, {"-" + strings.Repeat("9", 23) + "-", 24},
		{`"` + strings.Repeat("a", 41) + `"x`, 43}, {`"` + strings.Repeat("a", 41) + "\n", 42},
	} {
		expect(t, c.s, parsed{n: c.at, e: api.ErrFormat})
	}
}

func TestParseBig(t *testing.T) {
	for _, s := range []string{
		"9223372036854775808", "9223372036854775809", "9223372036854775810", "9300000000000000000", "10000000000000000000",
		"-9223372036854775809", "-9223372036854775810", "-10000000000000000000",
		"18446744073709551616", "18446744073709551617", "-18446744073709551617", // these wrap around to small integers
		"1" + strings.Repeat("0", 64), "-1" + strings.Repeat("0", 1000), strings.Repeat("9", 100000),
		`"` + strings.Repeat("a", api.MaxText+1) + `"`, `"` + strings.Repeat("\u00fc", 20) + `a"`, `"a` + strings.Repeat("\u00fc", 20) + `"`,
		`"` + strings.Repeat(`\x00`, api.MaxText+1) + `"`, `"` + strings.Repeat(`\n`, 100000) + `"`,
		`"` + strings.Repeat("a", api.MaxText-1) + "\U0001f600\"",
	} {
		expect(t, s, parsed{e: api.ErrBig})
	}
}

// TestParseAtLimit has strings whose length counts unquoted, in bytes.
func TestParseAtLimit(t *testing.T) {
	for part, whole := range map[string]string{"a": "a", `\x00`: "\x00", `\n`: "\n", `\\`: `\`, `\"`: `"`} {
		s := `"` + strings.Repeat(part, api.MaxText) + `"`
		expect(t, s, parsed{text(strings.Repeat(whole, api.MaxText)), len(s), api.OK})
	}
	s := `"` + strings.Repeat("\u00fc", api.MaxText/2) + `"`
	expect(t, s, parsed{text(strings.Repeat("\u00fc", api.MaxText/2)), len(s), api.OK})
}

func TestParseInvertsText(t *testing.T) {
	l := validValues()
	random := rand.New(rand.NewSource(1))
	for range 5000 {
		l = append(l, num(int(random.Uint64()>>random.Intn(64))), num(-int(random.Uint64()>>random.Intn(64))), text(randomString(random)))
	}
	for _, v := range l {
		s, e := value.Text(v)
		if e != api.OK {
			t.Fatalf("Text(%#v): %d", v, e)
		}
		expect(t, s, parsed{v, len(s), api.OK})
	}
}

// randomString returns a valid string of at most MaxText bytes, with many code points that are escaped.
func randomString(random *rand.Rand) string {
	var b strings.Builder
	for range random.Intn(api.MaxText) {
		c := rune(random.Intn(1 << (1 + random.Intn(20))))
		if !utf8.ValidRune(c) || b.Len()+utf8.RuneLen(c) > api.MaxText {
			continue
		}
		b.WriteRune(c)
	}
	return b.String()
}

// model answers as Parse does, from a pattern of all textual forms and from
// what completes each kind of prefix.
type model struct {
	form        *regexp.Regexp
	completions []string
}

func newModel() model {
	return model{
		regexp.MustCompile(`^(?:0|-?[1-9][0-9]*|"(?:[^"\\\x00-\x1f\x7f]|\\["\\n]|\\x(?:0[0-9b-f]|1[0-9a-f]|7f))*")$`),
		[]string{"", "1", `"`, `n"`, `00"`, `0"`, `f"`},
	}
}

func (m model) isForm(s string) bool {
	return utf8.ValidString(s) && m.form.MatchString(s)
}

func (m model) isPrefix(s string) bool {
	for _, c := range m.completions {
		if m.isForm(s + c) {
			return true
		}
	}
	return false
}

func (m model) parse(s string) parsed {
	if m.isForm(s) {
		return m.valueOf(s)
	}
	at := len(s)
	for !m.isPrefix(s[:at]) {
		at--
	}
	if at == len(s) {
		return parsed{n: at, e: api.ErrShort}
	}
	return parsed{n: at, e: api.ErrFormat}
}

func (m model) valueOf(s string) parsed {
	if n, err := strconv.Atoi(s); err == nil {
		return parsed{num(n), len(s), api.OK}
	}
	if u, err := strconv.Unquote(s); err == nil && len(u) <= api.MaxText {
		return parsed{text(u), len(s), api.OK}
	}
	return parsed{e: api.ErrBig}
}

// TestParseAgainstModel compares all short strings of telling parts, behind several beginnings;
// whatever is parsed must be the textual form of its value.
func TestParseAgainstModel(t *testing.T) {
	parts := []string{`"`, `\`, "n", "x", "0", "1", "7", "9", "a", "f", "A", "-", "+", " ", "\n", "\x7f", "\u00fc", "\xc3", "\xff"}
	m := newModel()
	seen := 0
	var visit func(s string, more int)
	visit = func(s string, more int) {
		seen++
		got, want := parse(s), m.parse(s)
		if got != want {
			t.Fatalf("Parse(%q) = %#v, want %#v", s, got, want)
		}
		if form, e := value.Text(got.v); got.e == api.OK && (form != s || e != api.OK) {
			t.Fatalf("Parse(%q) = %#v, whose form is %q", s, got, form)
		}
		if more == 0 {
			return
		}
		for _, p := range parts {
			visit(s+p, more-1)
		}
	}
	for _, beginning := range []string{"", `"`, `"\x`, `-`, `"` + strings.Repeat("a", 38), "922337203685477580", "-922337203685477580"} {
		visit(beginning, 3)
	}
	if want := 7 * (1 + 19 + 19*19 + 19*19*19); seen != want {
		t.Errorf("%d strings compared, want %d", seen, want)
	}
}

// TestParseOfAllBytes compares what follows at each place of a textual form, for every byte.
func TestParseOfAllBytes(t *testing.T) {
	m := newModel()
	for _, before := range []string{"", "-", "0", "1", "-1", `"`, `"a`, `"\`, `"\x`, `"\x0`, `"\x1`, `"\x7`, `"a"`} {
		for c := range 256 {
			for _, after := range []string{"", `"`, `0"`} {
				s := before + string([]byte{byte(c)}) + after
				expect(t, s, m.parse(s))
			}
		}
	}
}
