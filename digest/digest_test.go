package digest_test

import (
	"crypto/sha256"
	"math/rand"
	"strings"
	"testing"

	"fasti/api"
	"fasti/digest"
)

func reference(s string) string {
	sum := sha256.Sum256([]byte(s))
	return string(sum[:])
}

// message returns a string of that length in which no two parts are alike.
func message(seed int64, length int) string {
	s := make([]byte, length)
	rand.New(rand.NewSource(seed)).Read(s)
	return string(s)
}

// edgeLengths are around the lengths at which the padded message has one more
// block, and at which a block of the message is full.
func edgeLengths() []int {
	return []int{0, 1, 2, 54, 55, 56, 57, 62, 63, 64, 65, 118, 119, 120, 121, 126, 127, 128, 129, 183, 184, 192, 193}
}

func checkSum(t *testing.T, what, got, s string) {
	t.Helper()
	if want := reference(s); got != want {
		t.Errorf("%s: the digest of %d bytes is %x, want %x", what, len(s), got, want)
	}
}

func TestSumOfPublishedMessages(t *testing.T) {
	for s, want := range map[string]string{
		"":    "e3b0c44298fc1c149afbf4c8996fb92427ae41e4649b934ca495991b7852b855",
		"abc": "ba7816bf8f01cfea414140de5dae2223b00361a396177a9cb410ff61f20015ad",
		"abcdbcdecdefdefgefghfghighijhijkijkljklmklmnlmnomnopnopq":                                                         "248d6a61d20638b8e5c026930c3e6039a33ce45964ff2167f6ecedd419db06c1",
		"abcdefghbcdefghicdefghijdefghijkefghijklfghijklmghijklmnhijklmnoijklmnopjklmnopqklmnopqrlmnopqrsmnopqrstnopqrstu": "cf5b16a778af8380036ce59e7b0492370b249b11e8f07a51afac45037afee9d1",
		strings.Repeat("a", 1000000): "cdc76e5c9914fb9281a1c7e284d73e67f1809a48a497200e046d39ccc7112cd0",
	} {
		if got := digest.Hex(digest.Sum(s)); got != want {
			t.Errorf("the digest of %d bytes is %s, want %s", len(s), got, want)
		}
	}
}

func TestSumOfEachLength(t *testing.T) {
	for n := range 700 {
		for _, s := range []string{message(int64(n), n), strings.Repeat("\x00", n), strings.Repeat("\xff", n), strings.Repeat("\x80", n)} {
			checkSum(t, "Sum", digest.Sum(s), s)
		}
	}
	for _, n := range []int{1 << 13, 1<<13 - 1, 1<<16 + 55, 1<<16 + 56, 1 << 21, 1<<21 + 1} {
		s := message(int64(n), n)
		checkSum(t, "Sum", digest.Sum(s), s)
	}
}

func TestSumOfStringsThatAreNotText(t *testing.T) {
	for _, s := range []string{"\x00", "\x00\x00", "a\x00", "\xff\xfe", "\xc3", "\xed\xa0\x80", allBytes()} {
		checkSum(t, "Sum", digest.Sum(s), s)
	}
}

// TestLengthBeyond32Bits has a message whose length in bits needs more than 4 bytes.
func TestLengthBeyond32Bits(t *testing.T) {
	piece := message(1, 1<<20+1)
	h, r := digest.New(), sha256.New()
	for range 513 {
		h.Put(piece)
		r.Write([]byte(piece))
	}
	if h.Len() != 513*len(piece) || h.Sum() != string(r.Sum(nil)) {
		t.Errorf("the digest of %d bytes is %x", h.Len(), h.Sum())
	}
}

func TestNewIsTheEmptyString(t *testing.T) {
	h := digest.New()
	if h == nil {
		t.Fatal("New returned nil")
	}
	if h.Len() != 0 || h.Sum() != reference("") {
		t.Errorf("New has length %d and digest %x", h.Len(), h.Sum())
	}
	if e := h.Put(""); e != api.OK || h.Len() != 0 || h.Sum() != reference("") {
		t.Errorf("Put of an empty string: %d; length %d, digest %x", e, h.Len(), h.Sum())
	}
}

func TestPutByteByByte(t *testing.T) {
	s := message(2, 300)
	h := digest.New()
	for n := range len(s) {
		if e := h.Put(s[n : n+1]); e != api.OK {
			t.Fatalf("Put of byte %d: %d", n, e)
		}
		if h.Len() != n+1 {
			t.Errorf("after %d bytes the length is %d", n+1, h.Len())
		}
		checkSum(t, "byte by byte", h.Sum(), s[:n+1])
	}
}

func TestEachDivisionInTwoAndThree(t *testing.T) {
	for _, n := range edgeLengths() {
		s := message(int64(n), n)
		for i := range n + 1 {
			h := digest.New()
			h.Put(s[:i])
			h.Put(s[i:])
			checkSum(t, "in two pieces", h.Sum(), s)
			for _, j := range []int{i, i + 1, i + 8, i + 63, i + 64} {
				if j > n {
					break
				}
				h := digest.New()
				h.Put(s[:i])
				h.Put(s[i:j])
				h.Put(s[j:])
				checkSum(t, "in three pieces", h.Sum(), s)
				if h.Len() != n {
					t.Errorf("the length of %d bytes is %d", n, h.Len())
				}
			}
		}
	}
}

func TestManyPieces(t *testing.T) {
	r := rand.New(rand.NewSource(3))
	for range 300 {
		s := message(r.Int63(), r.Intn(2000))
		h := digest.New()
		done := 0
		for done < len(s) {
			n := min(r.Intn(150), len(s)-done)
			h.Put(s[done : done+n])
			done += n
			if h.Len() != done {
				t.Fatalf("after %d bytes the length is %d", done, h.Len())
			}
			if r.Intn(3) == 0 {
				checkSum(t, "between pieces", h.Sum(), s[:done])
			}
		}
		checkSum(t, "after all pieces", h.Sum(), s)
	}
}

func TestSumChangesNothing(t *testing.T) {
	for _, n := range edgeLengths() {
		s, more := message(int64(n), n), message(4, 100)
		h := digest.New()
		h.Put(s)
		for range 3 {
			checkSum(t, "again", h.Sum(), s)
			if h.Len() != n {
				t.Errorf("after Sum the length of %d bytes is %d", n, h.Len())
			}
		}
		h.Put(more)
		checkSum(t, "after more", h.Sum(), s+more)
	}
}

func TestHashesAreApart(t *testing.T) {
	s, other := message(5, 200), message(6, 200)
	a, b := digest.New(), digest.New()
	for i := range 200 {
		a.Put(s[i : i+1])
		b.Put(other[i:])
		digest.Sum(other)
		checkSum(t, "beside another hash", a.Sum(), s[:i+1])
	}
	if c := digest.New(); c.Len() != 0 || c.Sum() != reference("") {
		t.Errorf("a later New has length %d and digest %x", c.Len(), c.Sum())
	}
}

func TestHashNotOfNew(t *testing.T) {
	var none *digest.Hash
	for what, h := range map[string]*digest.Hash{"nil": none, "zero": {}, "new": new(digest.Hash)} {
		for _, s := range []string{"", "abc", strings.Repeat("a", 64), strings.Repeat("a", 1000)} {
			if e := h.Put(s); e != api.ErrNil {
				t.Errorf("%s: Put of %d bytes = %d, want %d", what, len(s), e, api.ErrNil)
			}
			if n := h.Len(); n != 0 {
				t.Errorf("%s: Len = %d", what, n)
			}
			if d := h.Sum(); d != "" {
				t.Errorf("%s: Sum = %x", what, d)
			}
		}
	}
}
