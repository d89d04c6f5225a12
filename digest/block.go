package digest

const (
	blockSize = 64 // bytes
	rounds    = 64
)

type block [blockSize]byte

// state has the integers a to h.
type state [8]uint32

var initial = state{
	0x6a09e667, 0xbb67ae85, 0x3c6ef372, 0xa54ff53a, 0x510e527f, 0x9b05688c, 0x1f83d9ab, 0x5be0cd19,
}

// roundKeys are the first 32 bits of the fractional parts of the cube roots of
// the first primes.
var roundKeys = [rounds]uint32{
	0x428a2f98, 0x71374491, 0xb5c0fbcf, 0xe9b5dba5, 0x3956c25b, 0x59f111f1, 0x923f82a4, 0xab1c5ed5,
	0xd807aa98, 0x12835b01, 0x243185be, 0x550c7dc3, 0x72be5d74, 0x80deb1fe, 0x9bdc06a7, 0xc19bf174,
	0xe49b69c1, 0xefbe4786, 0x0fc19dc6, 0x240ca1cc, 0x2de92c6f, 0x4a7484aa, 0x5cb0a9dc, 0x76f988da,
	0x983e5152, 0xa831c66d, 0xb00327c8, 0xbf597fc7, 0xc6e00bf3, 0xd5a79147, 0x06ca6351, 0x14292967,
	0x27b70a85, 0x2e1b2138, 0x4d2c6dfc, 0x53380d13, 0x650a7354, 0x766a0abb, 0x81c2c92e, 0x92722c85,
	0xa2bfe8a1, 0xa81a664b, 0xc24b8b70, 0xc76c51a3, 0xd192e819, 0xd6990624, 0xf40e3585, 0x106aa070,
	0x19a4c116, 0x1e376c08, 0x2748774c, 0x34b0bcb5, 0x391c0cb3, 0x4ed8aa4a, 0x5b9cca4f, 0x682e6ff3,
	0x748f82ee, 0x78a5636f, 0x84c87814, 0x8cc70208, 0x90befffa, 0xa4506ceb, 0xbef9a3f7, 0xc67178f2,
}

// after returns the state into which the block changes s.
func (s state) after(from block) state {
	w := from.words()
	a, b, c, d, e, f, g, h := s[0], s[1], s[2], s[3], s[4], s[5], s[6], s[7]
	for i := range rounds {
		s1 := rotate(e, 6) ^ rotate(e, 11) ^ rotate(e, 25)
		ch := e&f | ^e&g
		t1 := h + s1 + ch + roundKeys[i] + w[i]
		s0 := rotate(a, 2) ^ rotate(a, 13) ^ rotate(a, 22)
		maj := a&b | a&c | b&c
		t2 := s0 + maj
		h, g, f, e, d, c, b, a = g, f, e, d+t1, c, b, a, t1+t2
	}
	return state{s[0] + a, s[1] + b, s[2] + c, s[3] + d, s[4] + e, s[5] + f, s[6] + g, s[7] + h}
}

// words returns one integer for each round: those of the block, and those that
// follow from them.
func (b block) words() [rounds]uint32 {
	var w [rounds]uint32
	for i := range blockSize / 4 {
		w[i] = uint32(b[4*i])<<24 | uint32(b[4*i+1])<<16 | uint32(b[4*i+2])<<8 | uint32(b[4*i+3])
	}
	for i := blockSize / 4; i < rounds; i++ {
		s0 := rotate(w[i-15], 7) ^ rotate(w[i-15], 18) ^ w[i-15]>>3
		s1 := rotate(w[i-2], 17) ^ rotate(w[i-2], 19) ^ w[i-2]>>10
		w[i] = s1 + w[i-7] + s0 + w[i-16]
	}
	return w
}

// rotate moves the n lowest bits of x to its top.
func rotate(x uint32, n int) uint32 {
	return x>>n | x<<(32-n)
}

// bytes returns the integers as a string, the most significant byte of each first.
func (s state) bytes() string {
	out := make([]byte, 0, 4*len(s))
	for _, x := range s {
		out = append(out, byte(x>>24), byte(x>>16), byte(x>>8), byte(x))
	}
	return string(out)
}
