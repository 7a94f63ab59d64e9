// Package sha: SHA-256: see doc/01-sha.md.
package sha

import (
	"math/bits"

	"haversack/api"
)

const block = 64

// rounds: the first 32 bits of the fractional parts of the cube roots of the first 64 primes (FIPS 180-4, 4.2.2).
var rounds = [64]uint32{
	0x428a2f98, 0x71374491, 0xb5c0fbcf, 0xe9b5dba5, 0x3956c25b, 0x59f111f1, 0x923f82a4, 0xab1c5ed5,
	0xd807aa98, 0x12835b01, 0x243185be, 0x550c7dc3, 0x72be5d74, 0x80deb1fe, 0x9bdc06a7, 0xc19bf174,
	0xe49b69c1, 0xefbe4786, 0x0fc19dc6, 0x240ca1cc, 0x2de92c6f, 0x4a7484aa, 0x5cb0a9dc, 0x76f988da,
	0x983e5152, 0xa831c66d, 0xb00327c8, 0xbf597fc7, 0xc6e00bf3, 0xd5a79147, 0x06ca6351, 0x14292967,
	0x27b70a85, 0x2e1b2138, 0x4d2c6dfc, 0x53380d13, 0x650a7354, 0x766a0abb, 0x81c2c92e, 0x92722c85,
	0xa2bfe8a1, 0xa81a664b, 0xc24b8b70, 0xc76c51a3, 0xd192e819, 0xd6990624, 0xf40e3585, 0x106aa070,
	0x19a4c116, 0x1e376c08, 0x2748774c, 0x34b0bcb5, 0x391c0cb3, 0x4ed8aa4a, 0x5b9cca4f, 0x682e6ff3,
	0x748f82ee, 0x78a5636f, 0x84c87814, 0x8cc70208, 0x90befffa, 0xa4506ceb, 0xbef9a3f7, 0xc67178f2,
}

// hash: a sum under way: what the whole blocks came to, and what is left behind them.
type hash struct {
	h      [8]uint32
	rest   [block]byte
	filled int
	length uint64
}

// Sum tells the SHA-256 of all parts, one behind another.
func Sum(parts ...[]byte) api.Key {
	x := start()
	for _, p := range parts {
		x.add(p)
	}
	return x.end()
}

func start() hash {
	return hash{h: [8]uint32{
		0x6a09e667, 0xbb67ae85, 0x3c6ef372, 0xa54ff53a,
		0x510e527f, 0x9b05688c, 0x1f83d9ab, 0x5be0cd19,
	}}
}

func (x *hash) add(p []byte) {
	x.length += uint64(len(p))
	if x.filled > 0 {
		n := copy(x.rest[x.filled:], p)
		x.filled += n
		p = p[n:]
		if x.filled < block {
			return
		}
		x.mix(x.rest[:])
		x.filled = 0
	}
	for len(p) >= block {
		x.mix(p[:block])
		p = p[block:]
	}
	x.filled = copy(x.rest[:], p)
}

// mix takes one block into the sum.
func (x *hash) mix(p []byte) {
	var w [64]uint32
	for i := range 16 {
		w[i] = uint32(p[4*i])<<24 | uint32(p[4*i+1])<<16 | uint32(p[4*i+2])<<8 | uint32(p[4*i+3])
	}
	for i := 16; i < 64; i++ {
		s0 := bits.RotateLeft32(w[i-15], -7) ^ bits.RotateLeft32(w[i-15], -18) ^ w[i-15]>>3
		s1 := bits.RotateLeft32(w[i-2], -17) ^ bits.RotateLeft32(w[i-2], -19) ^ w[i-2]>>10
		w[i] = w[i-16] + s0 + w[i-7] + s1
	}
	a, b, c, d := x.h[0], x.h[1], x.h[2], x.h[3]
	e, f, g, h := x.h[4], x.h[5], x.h[6], x.h[7]
	for i := range 64 {
		s1 := bits.RotateLeft32(e, -6) ^ bits.RotateLeft32(e, -11) ^ bits.RotateLeft32(e, -25)
		t1 := h + s1 + (e&f ^ ^e&g) + rounds[i] + w[i]
		s0 := bits.RotateLeft32(a, -2) ^ bits.RotateLeft32(a, -13) ^ bits.RotateLeft32(a, -22)
		t2 := s0 + (a&b ^ a&c ^ b&c)
		h, g, f, e = g, f, e, d+t1
		d, c, b, a = c, b, a, t1+t2
	}
	x.h[0] += a
	x.h[1] += b
	x.h[2] += c
	x.h[3] += d
	x.h[4] += e
	x.h[5] += f
	x.h[6] += g
	x.h[7] += h
}

// end fills the last block up: a bit, noughts, how many bits there were.
func (x *hash) end() api.Key {
	n := x.length * 8
	fill := block - (x.filled+8)%block
	tail := make([]byte, fill+8)
	tail[0] = 0x80
	for i := range 8 {
		tail[fill+i] = byte(n >> (56 - 8*i))
	}
	x.add(tail)
	var k api.Key
	for i, v := range x.h {
		k[4*i], k[4*i+1], k[4*i+2], k[4*i+3] = byte(v>>24), byte(v>>16), byte(v>>8), byte(v)
	}
	return k
}

const digits = "0123456789abcdef"

// Hex tells a sum's bytes, each as two small hexadecimal digits.
func Hex(k api.Key) string {
	b := make([]byte, 0, 2*len(k))
	for _, c := range k {
		b = append(b, digits[c>>4], digits[c&15])
	}
	return string(b)
}

// Parse tells the sum of a text such as Hex tells, and whether it is one.
func Parse(s string) (api.Key, bool) {
	var k api.Key
	if len(s) != 2*len(k) {
		return api.Key{}, false
	}
	for i := range k {
		high, ok1 := digit(s[2*i])
		low, ok2 := digit(s[2*i+1])
		if !ok1 || !ok2 {
			return api.Key{}, false
		}
		k[i] = high<<4 | low
	}
	return k, true
}

func digit(c byte) (byte, bool) {
	switch {
	case c >= '0' && c <= '9':
		return c - '0', true
	case c >= 'a' && c <= 'f':
		return c - 'a' + 10, true
	}
	return 0, false
}
