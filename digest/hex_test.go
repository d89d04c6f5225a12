package digest_test

import (
	"encoding/hex"
	"math/rand"
	"strings"
	"testing"

	"fasti/api"
	"fasti/digest"
)

// allBytes has each byte once.
func allBytes() string {
	var out []byte
	for i := range 256 {
		out = append(out, byte(i))
	}
	return string(out)
}

func TestHex(t *testing.T) {
	for s, want := range map[string]string{
		"":                 "",
		"\x00":             "00",
		"\x0f\xf0":         "0ff0",
		"\xff":             "ff",
		"\x00\xff\x10":     "00ff10",
		"\x9a\xa9\n\x7f":   "9aa90a7f",
		"abc":              "616263",
		"\u20ac":           "e282ac",
		"\x00\x00a\x00":    "00006100",
		"\x01\x23\x45\x67": "01234567",
		"\x89\xab\xcd\xef": "89abcdef",
	} {
		if got := digest.Hex(s); got != want {
			t.Errorf("Hex(%q) = %q, want %q", s, got, want)
		}
	}
	if s := allBytes(); digest.Hex(s) != hex.EncodeToString([]byte(s)) {
		t.Errorf("Hex of all bytes = %q", digest.Hex(s))
	}
}

func TestUnhexInvertsHex(t *testing.T) {
	r := rand.New(rand.NewSource(1))
	list := []string{"", allBytes(), strings.Repeat("\x00", 100), strings.Repeat("\xff", 100)}
	for n := range 200 {
		s := make([]byte, n)
		r.Read(s)
		list = append(list, string(s))
	}
	for _, s := range list {
		if got, e := digest.Unhex(digest.Hex(s)); got != s || e != api.OK {
			t.Errorf("Unhex(Hex(%q)) = %q, %d", s, got, e)
		}
	}
}

// TestUnhexOfPairs asks for each string of two bytes: it has a result just if
// it is the Hex of one byte.
func TestUnhexOfPairs(t *testing.T) {
	want := map[string]string{}
	for i := range 256 {
		s := string([]byte{byte(i)})
		want[digest.Hex(s)] = s
	}
	if len(want) != 256 {
		t.Fatalf("Hex has %d results for 256 bytes", len(want))
	}
	for a := range 256 {
		for b := range 256 {
			pair := string([]byte{byte(a), byte(b)})
			s, isHex := want[pair]
			wantError := api.ErrFormat
			if isHex {
				wantError = api.OK
			}
			if got, e := digest.Unhex(pair); got != s || e != wantError {
				t.Errorf("Unhex(%q) = %q, %d, want %q, %d", pair, got, e, s, wantError)
			}
		}
	}
}

func TestUnhexOfOtherStrings(t *testing.T) {
	for _, s := range []string{
		"0", "f", "g", "abc", "00f", "0123456", // odd
		"0g", "g0", "0A", "A0", "FF", "aF", "0/", "0:", "0`", "0G", "/0", ":0", "`0", // next to the digits
		"00 0", "00 00", " 00", "00 ", "00\n", "00\n\n", "0x00", "-1", "+1", "0_00", "\x0000", "\x00\x00",
		"\u20ac0", "\xff\xff", "\uff10\uff10",
		"000000000000g0", "0000000000000g", "g0000000000000", strings.Repeat("00", 100) + "0", strings.Repeat("00", 100) + "0A",
	} {
		if got, e := digest.Unhex(s); got != "" || e != api.ErrFormat {
			t.Errorf("Unhex(%q) = %q, %d, want an empty string, %d", s, got, e, api.ErrFormat)
		}
	}
	if got, e := digest.Unhex(""); got != "" || e != api.OK {
		t.Errorf("Unhex of an empty string = %q, %d", got, e)
	}
}
