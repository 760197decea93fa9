package crc_test

import (
	"bytes"
	"math/bits"
	"slices"
	"testing"

	"incunable/crc"
)

// P2.2: a list that is cut in two anywhere, or in three, has the sum of all.
func TestCutInTwoAndThree(t *testing.T) {
	m := mixer(11)
	for _, n := range []int{0, 1, 2, 9, 33} {
		b := m.bytes(n)
		want := crc.Of(b)
		for i := 0; i <= n; i++ {
			if got := crc.On(crc.Of(b[:i]), b[i:]); got != want {
				t.Errorf("% X cut at %d: %08X, want %08X", b, i, got, want)
			}
			for j := i; j <= n; j++ {
				if got := crc.On(crc.On(crc.Of(b[:i]), b[i:j]), b[j:]); got != want {
					t.Errorf("% X cut at %d and %d: %08X, want %08X", b, i, j, got, want)
				}
			}
		}
	}
}

// inPieces is the sum of bytes that are cut behind each byte whose bit is 1 in cuts.
func inPieces(sum uint32, b []byte, cuts int) uint32 {
	from := 0
	for i := range b {
		if cuts>>i&1 == 1 {
			sum = crc.On(sum, b[from:i+1])
			from = i + 1
		}
	}
	return crc.On(sum, b[from:])
}

// P2.2: every way there is to cut eleven bytes, from no bytes at all and from any sum.
func TestCutInEveryWay(t *testing.T) {
	m := mixer(12)
	b := m.bytes(11)
	other := m.next()
	of, on := crc.Of(b), crc.On(other, b)
	for cuts := 0; cuts < 1<<len(b); cuts++ {
		if got := inPieces(0, b, cuts); got != of {
			t.Errorf("cut by %011b: %08X, want %08X", cuts, got, of)
		}
		if got := inPieces(other, b, cuts); got != on {
			t.Errorf("from %08X, cut by %011b: %08X, want %08X", other, cuts, got, on)
		}
	}
}

// P2.2: long lists, cut into pieces of any lengths, some of them of no bytes.
func TestLongListsInPieces(t *testing.T) {
	m := mixer(13)
	b := m.bytes(70000)
	want := crc.Of(b)
	for try := 0; try < 50; try++ {
		sum, rest := crc.Of(nil), b
		for len(rest) > 0 {
			n := min(len(rest), int(m.next()%3000)*int(m.next()%4))
			sum = crc.On(sum, rest[:n])
			rest = rest[n:]
		}
		if sum != want {
			t.Errorf("try %d: %08X, want %08X", try, sum, want)
		}
	}
}

// turn turns the bits of b that are 1 in which, from the bit at on (in each byte the lowest one first).
func turn(b []byte, at int, which uint32) {
	for ; which != 0; which &= which - 1 {
		bit := at + bits.TrailingZeros32(which)
		b[bit/8] ^= 1 << (bit % 8)
	}
}

// lookTurned fails if the turned bits go unseen.
func lookTurned(t *testing.T, b []byte, at int, which uint32) {
	t.Helper()
	want := crc.Of(b)
	c := bytes.Clone(b)
	turn(c, at, which)
	if got := crc.Of(c); got == want {
		t.Errorf("of %d bytes the bits %b from the bit %d on were turned: the sum is still %08X", len(b), which, at, got)
	}
}

// P2.3: all turnings of up to nine bits side by side, wherever they stand, over the ends of bytes too.
func TestFewTurnedBits(t *testing.T) {
	m := mixer(14)
	b := m.bytes(7)
	for at := 0; at < 8*len(b); at++ {
		for which := uint32(1); which < 1<<9; which += 2 {
			if at+bits.Len32(which) <= 8*len(b) {
				lookTurned(t, b, at, which)
			}
		}
	}
}

// P2.3: turnings of up to 32 bits, wherever they begin, in lists of several lengths.
func TestTurnedBits(t *testing.T) {
	m := mixer(15)
	for _, n := range []int{4, 5, 6, 9, 40} {
		b := m.bytes(n)
		for at := 0; at+32 <= 8*n; at++ {
			for _, which := range []uint32{0xFFFFFFFF, 0x80000001, 1, 0x80000000, 0xEDB88320, 0xDB710641, 0x04C11DB7, 0x82608EDB} {
				lookTurned(t, b, at, which)
			}
			for i := 0; i < 60; i++ {
				lookTurned(t, b, at, m.next()|1)
			}
		}
	}
}

// P2.3: in long lists, at their beginning, at their end, and between.
func TestTurnedBitsOfLongLists(t *testing.T) {
	m := mixer(16)
	for _, n := range []int{4096, 65536} {
		b := m.bytes(n)
		last := 8*n - 32
		for _, at := range []int{0, 1, 7, 8, last / 2, last/2 + 3, last - 8, last - 1, last} {
			for i := 0; i < 4; i++ {
				lookTurned(t, b, at, m.next()|1)
			}
		}
	}
}

// rank counts how many of the sums can't be made of others by exclusive or.
func rank(sums []uint32) int {
	l := slices.Clone(sums)
	n := 0
	for len(l) > 0 {
		top := l[0]
		l = l[1:]
		if top == 0 {
			continue
		}
		n++
		low := top & -top
		for i := range l {
			if l[i]&low != 0 {
				l[i] ^= top
			}
		}
	}
	return n
}

// P2.3: of any 32 bits side by side each one changes the sum in a way that the others together can't: so all 2^32 - 1 turnings are seen (what a bit changes does not hang on other bits, which the test looks at, too).
func TestAllTurnings(t *testing.T) {
	m := mixer(17)
	b := m.bytes(48)
	want := crc.Of(b)
	for at := 0; at+32 <= 8*len(b); at++ {
		var changes []uint32
		for i := 0; i < 32; i++ {
			c := bytes.Clone(b)
			turn(c, at+i, 1)
			changes = append(changes, crc.Of(c)^want)
		}
		if n := rank(changes); n != 32 {
			t.Errorf("from the bit %d on: only %d of 32 bits tell", at, n)
		}
		which := m.next()
		c, all := bytes.Clone(b), want
		turn(c, at, which)
		for i, change := range changes {
			if which>>i&1 == 1 {
				all ^= change
			}
		}
		if got := crc.Of(c); got != all {
			t.Errorf("the bits %b from the bit %d on, turned at once: %08X, one by one: %08X", which, at, got, all)
		}
	}
}

// P2.3: any two bytes that change places, unless they are the same, alone and among others.
func TestBytesThatChangePlaces(t *testing.T) {
	m := mixer(18)
	b := m.bytes(13)
	for _, at := range []int{0, 5, len(b) - 2} {
		for x := 0; x < 256; x++ {
			for y := 0; y < 256; y++ {
				b[at], b[at+1] = byte(x), byte(y)
				one, oneAlone := crc.Of(b), crc.Of(b[at:at+2])
				b[at], b[at+1] = byte(y), byte(x)
				two, twoAlone := crc.Of(b), crc.Of(b[at:at+2])
				if one == two != (x == y) || oneAlone == twoAlone != (x == y) {
					t.Fatalf("%02X %02X at %d: %08X (alone %08X), the other way round %08X (alone %08X)", x, y, at, one, oneAlone, two, twoAlone)
				}
			}
		}
	}
}

// P2.3: lists of noughts alone have one sum just if they are as long.
func TestNoughtsAlone(t *testing.T) {
	const most = 1 << 17
	seen := make(map[uint32]int, most)
	sum := crc.Of(nil)
	for n := 0; n < most; n++ {
		if other, ok := seen[sum]; ok {
			t.Fatalf("%d and %d noughts have the same sum %08X", other, n, sum)
		}
		seen[sum] = n
		if n < 600 || n%16384 == 0 {
			if got, again := crc.Of(make([]byte, n)), crc.Of(make([]byte, n, n+9)); got != sum || again != sum {
				t.Fatalf("%d noughts: %08X and %08X, want %08X", n, got, again, sum)
			}
		}
		sum = crc.On(sum, []byte{0})
	}
}

// goneBack is the sum ahead of b of the one behind it: the topmost bit tells which one fell out.
func goneBack(sum uint32, b []byte) uint32 {
	sum = ^sum
	for _, x := range slices.Backward(b) {
		for i := 0; i < 8; i++ {
			out := sum >> 31
			if out == 1 {
				sum ^= 0xEDB88320
			}
			sum = sum<<1 | out
		}
		sum ^= uint32(x)
	}
	return ^sum
}

// P2.4: behind any bytes, the sum ahead of them can be told, and there is one of each.
func TestSumAhead(t *testing.T) {
	m := mixer(19)
	for _, n := range []int{0, 1, 2, 3, 4, 5, 17, 300} {
		b := m.bytes(n)
		for _, sum := range starts() {
			if got := goneBack(crc.On(sum, b), b); got != sum {
				t.Errorf("ahead of % X stood %08X, and %08X was told", b, sum, got)
			}
			if got := crc.On(goneBack(sum, b), b); got != sum {
				t.Errorf("ahead of % X stands what leads to %08X: it led to %08X", b, sum, got)
			}
		}
		var changes []uint32
		for i := 0; i < 32; i++ {
			changes = append(changes, crc.On(1<<i, b)^crc.On(0, b))
		}
		if got := rank(changes); got != 32 {
			t.Errorf("ahead of % X: only %d of a sum's 32 bits tell", b, got)
		}
	}
}

// P2.4: no two sums ahead of a byte lead to one behind it.
func TestNoTwoSumsAhead(t *testing.T) {
	for x := 0; x < 256; x += 51 {
		seen := make(map[uint32]bool)
		for low := uint32(0); low < 1<<12; low++ {
			for _, high := range []uint32{0, 0xFFFFF000, 0x12345000} {
				seen[crc.On(high|low, []byte{byte(x)})] = true
			}
		}
		if len(seen) != 3<<12 {
			t.Errorf("%d sums led over %02X to %d", 3<<12, x, len(seen))
		}
	}
}

// closing are the four bytes that lead from one sum to the other.
func closing(from, to uint32) []byte {
	sum := ^goneBack(to, []byte{0, 0, 0, 0}) ^ ^from
	return []byte{byte(sum), byte(sum >> 8), byte(sum >> 16), byte(sum >> 24)}
}

// P2.4: for each sum, behind any bytes, there are four bytes that make it the sum of all, and only these.
func TestFourBytesForEachSum(t *testing.T) {
	m := mixer(20)
	for _, n := range []int{0, 1, 4, 30, 1000} {
		b := m.bytes(n)
		from := crc.Of(b)
		for _, to := range starts() {
			four := closing(from, to)
			all := slices.Concat(b, four)
			if got := crc.Of(all); got != to {
				t.Errorf("behind %d bytes % X were to make %08X, and made %08X", n, four, to, got)
			}
			for i := 0; i < 32; i++ {
				turn(all[n:], i, 1)
				if crc.Of(all) == to {
					t.Errorf("behind %d bytes % X make %08X, too", n, all[n:], to)
				}
				turn(all[n:], i, 1)
			}
			if other := m.bytes(4); !bytes.Equal(other, four) && crc.On(from, other) == to {
				t.Errorf("behind %d bytes % X and % X make %08X", n, four, other, to)
			}
		}
	}
}

// P2.4: the bytes that make 2144DF1C the sum of all are the sum of those ahead, the lowest byte first.
func TestSumBehindItsBytes(t *testing.T) {
	m := mixer(21)
	for n := 0; n < 200; n++ {
		b := m.bytes(n)
		sum := crc.Of(b)
		four := []byte{byte(sum), byte(sum >> 8), byte(sum >> 16), byte(sum >> 24)}
		if got := crc.Of(slices.Concat(b, four)); got != 0x2144DF1C {
			t.Errorf("% X with its sum %08X behind it: %08X, want 2144DF1C", b, sum, got)
		}
		if got := crc.On(sum, four); got != 0x2144DF1C {
			t.Errorf("On(%08X, itself) = %08X, want 2144DF1C", sum, got)
		}
		if got := closing(sum, 0x2144DF1C); !bytes.Equal(got, four) {
			t.Errorf("behind the sum %08X % X make 2144DF1C", sum, got)
		}
	}
	for _, sum := range starts() {
		four := []byte{byte(sum), byte(sum >> 8), byte(sum >> 16), byte(sum >> 24)}
		if got := crc.On(sum, four); got != 0x2144DF1C {
			t.Errorf("On(%08X, itself) = %08X, want 2144DF1C", sum, got)
		}
	}
}
