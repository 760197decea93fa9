package sha_test

import (
	"bytes"
	"encoding/binary"
	"math/big"
	"strings"
	"testing"

	"incunable/api"
	"incunable/sha"
)

// mixer makes numbers that look like chance and are always the same.
type mixer uint64

func (m *mixer) next() uint32 {
	*m = *m*6364136223846793005 + 1442695040888963407
	return uint32(*m >> 32)
}

func (m *mixer) below(n int) int {
	return int(m.next() % uint32(n))
}

func (m *mixer) bytes(n int) []byte {
	b := make([]byte, n)
	for i := range b {
		b[i] = byte(m.next())
	}
	return b
}

func (m *mixer) words() [8]uint32 {
	var h [8]uint32
	for i := range h {
		h[i] = m.next()
	}
	return h
}

func (m *mixer) digest() [32]byte {
	return [32]byte(m.bytes(32))
}

// hasRoot tells whether x^power is at most n times 2^(32 power).
func hasRoot(x *big.Int, power, n int) bool {
	most := new(big.Int).Lsh(big.NewInt(int64(n)), uint(32*power))
	return new(big.Int).Exp(x, big.NewInt(int64(power)), nil).Cmp(most) <= 0
}

// rootOf is the root by the chapter's words alone: it halves what is between a number that is small enough and one that is not.
func rootOf(power, n int) uint32 {
	low, high := big.NewInt(0), new(big.Int).Lsh(big.NewInt(int64(n)), 33)
	one := big.NewInt(1)
	for new(big.Int).Sub(high, low).Cmp(one) > 0 {
		middle := new(big.Int).Rsh(new(big.Int).Add(low, high), 1)
		if hasRoot(middle, power, n) {
			low = middle
		} else {
			high = middle
		}
	}
	return uint32(new(big.Int).And(low, big.NewInt(0xFFFFFFFF)).Uint64())
}

// primesUpTo are the primes, sieved.
func primesUpTo(most int) []int {
	var l []int
	struck := make([]bool, most+1)
	for n := 2; n <= most; n++ {
		if struck[n] {
			continue
		}
		l = append(l, n)
		for m := n; m <= most; m += n {
			struck[m] = true
		}
	}
	return l
}

// turnedBits turns a word by n, one bit at a time.
func turnedBits(x uint32, n int) uint32 {
	for range n {
		lowest := x % 2
		x = x/2 + lowest<<31
	}
	return x
}

// putTogether are a word's turnings, and one that is shifted (unless by 0).
func putTogether(x uint32, shift int, turns ...int) uint32 {
	var all uint32
	for _, n := range turns {
		all ^= turnedBits(x, n)
	}
	if shift > 0 {
		all ^= x / (1 << shift)
	}
	return all
}

// choice and most of bits, one bit at a time.
func choice(e, f, g uint32) (r uint32) {
	for i := range 32 {
		if e>>i&1 == 1 {
			r |= f & (1 << i)
		} else {
			r |= g & (1 << i)
		}
	}
	return r
}

func mostOf(a, b, c uint32) (r uint32) {
	for i := range 32 {
		if a>>i&1+b>>i&1+c>>i&1 >= 2 {
			r |= 1 << i
		}
	}
	return r
}

// keptRounds are the words of the rounds, by the chapter's words alone.
var keptRounds = func() (k [64]uint32) {
	for i, p := range primesUpTo(311) {
		k[i] = rootOf(3, p)
	}
	return k
}()

// blockOf is what a block makes of eight words, by the chapter's words alone: a is v[0], h is v[7].
func blockOf(h [8]uint32, b []byte) [8]uint32 {
	var w []uint32
	for i := range 64 {
		if i < 16 {
			w = append(w, binary.BigEndian.Uint32(b[4*i:]))
		} else {
			w = append(w, w[i-16]+putTogether(w[i-15], 3, 7, 18)+w[i-7]+putTogether(w[i-2], 10, 17, 19))
		}
	}
	v := h
	for i := range 64 {
		t1 := v[7] + putTogether(v[4], 0, 6, 11, 25) + choice(v[4], v[5], v[6]) + keptRounds[i] + w[i]
		t2 := putTogether(v[0], 0, 2, 13, 22) + mostOf(v[0], v[1], v[2])
		copy(v[1:], v[:7])
		v[4] += t1
		v[0] = t1 + t2
	}
	for i := range h {
		h[i] += v[i]
	}
	return h
}

// padded is what is made blocks, by the chapter's words alone: noughts come one by one.
func padded(b []byte) []byte {
	p := append(bytes.Clone(b), 0x80)
	for len(p)%64 != 56 {
		p = append(p, 0)
	}
	return binary.BigEndian.AppendUint64(p, 8*uint64(len(b)))
}

// bytesOf are eight words' bytes.
func bytesOf(h [8]uint32) (d [32]byte) {
	for i, w := range h {
		binary.BigEndian.PutUint32(d[4*i:], w)
	}
	return d
}

// publishedBegin are the eight words of FIPS 180-4, section 5.3.3.
func publishedBegin() [8]uint32 {
	return [8]uint32{0x6a09e667, 0xbb67ae85, 0x3c6ef372, 0xa54ff53a, 0x510e527f, 0x9b05688c, 0x1f83d9ab, 0x5be0cd19}
}

// digestOf is a digest by the chapter's words alone, but for the words with which it begins.
func digestOf(b []byte) [32]byte {
	h, p := publishedBegin(), padded(b)
	for ; len(p) > 0; p = p[64:] {
		h = blockOf(h, p[:64])
	}
	return bytesOf(h)
}

// mustBlock is what a block makes, and there must be no error.
func mustBlock(t *testing.T, h [8]uint32, b []byte) [8]uint32 {
	t.Helper()
	got, e := sha.Block(h, b)
	if e != api.OK {
		t.Fatalf("Block of %d bytes: error %d", len(b), e)
	}
	return got
}

// parseRefuses fails unless the error is all that is answered.
func parseRefuses(t *testing.T, s string) {
	t.Helper()
	if d, e := sha.Parse(s); d != ([32]byte{}) || e != api.ErrSyntax {
		t.Errorf("Parse(%q): %x, error %d; want error %d alone", s, d, e, api.ErrSyntax)
	}
}

// parsesTo fails unless just the digest is answered.
func parsesTo(t *testing.T, s string, want [32]byte) {
	t.Helper()
	if d, e := sha.Parse(s); d != want || e != api.OK {
		t.Errorf("Parse(%q): %x, error %d; want %x", s, d, e, want)
	}
}

// digits64 is 64 digits, the same ones again and again.
func digits64(s string) string {
	return strings.Repeat(s, 64)[:64]
}
