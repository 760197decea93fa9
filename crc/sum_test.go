package crc_test

import (
	"bytes"
	"hash/crc32"
	"testing"

	"incunable/crc"
)

// takenIn is the sum into which a byte was taken, by the chapter's words alone.
func takenIn(sum uint32, x byte) uint32 {
	sum = sum&0xFFFFFF00 | (sum&0xFF ^ uint32(x))
	for i := 0; i < 8; i++ {
		out := sum % 2
		sum /= 2
		if out == 1 {
			sum ^= 0xEDB88320
		}
	}
	return sum
}

// goneOn is what comes of going on from the sum, by the chapter's words alone.
func goneOn(sum uint32, b []byte) uint32 {
	sum = 0xFFFFFFFF - sum
	for _, x := range b {
		sum = takenIn(sum, x)
	}
	return 0xFFFFFFFF - sum
}

// sumOf is the sum of bytes, by the chapter's words alone.
func sumOf(b []byte) uint32 {
	sum := uint32(0xFFFFFFFF)
	for _, x := range b {
		sum = takenIn(sum, x)
	}
	return 0xFFFFFFFF - sum
}

// mixer makes numbers that look like chance and are always the same.
type mixer uint64

func (m *mixer) next() uint32 {
	*m = *m*6364136223846793005 + 1442695040888963407
	return uint32(*m >> 32)
}

func (m *mixer) bytes(n int) []byte {
	b := make([]byte, n)
	for i := range b {
		b[i] = byte(m.next())
	}
	return b
}

// starts are sums to go on from: the edges, single bits, and others.
func starts() []uint32 {
	l := []uint32{0, 0xFFFFFFFF, 1, 0x80000000, 0x7FFFFFFF, 0xFFFFFFFE, 0xEDB88320, 0x2144DF1C, 0xDEBB20E3, 0xCBF43926}
	for i := 0; i < 32; i++ {
		l = append(l, 1<<i)
	}
	m := mixer(1)
	for i := 0; i < 40; i++ {
		l = append(l, m.next())
	}
	return l
}

// P2.1: the chapter's examples, and some that are known elsewhere.
func TestExamples(t *testing.T) {
	for _, c := range []struct {
		text string
		want uint32
	}{
		{"", 0},
		{"123456789", 0xCBF43926},
		{"a", 0xE8B7BE43},
		{"abc", 0x352441C2},
		{"\x00\x00\x00\x00", 0x2144DF1C},
		{"\xFF\xFF\xFF\xFF", 0xFFFFFFFF},
		{"The quick brown fox jumps over the lazy dog", 0x414FA339},
	} {
		if got := crc.Of([]byte(c.text)); got != c.want {
			t.Errorf("Of(%q) = %08X, want %08X", c.text, got, c.want)
		}
	}
	if got := crc.On(crc.Of([]byte("1234")), []byte("56789")); got != 0xCBF43926 {
		t.Errorf("On(Of(1234), 56789) = %08X, want CBF43926", got)
	}
}

// P2.1: no bytes, be the list nil or not, have the sum 0, and nobody gets further by them.
func TestNoBytes(t *testing.T) {
	for _, none := range [][]byte{nil, {}, make([]byte, 0, 9), []byte("abc")[3:]} {
		if got := crc.Of(none); got != 0 {
			t.Errorf("Of(none) = %08X, want 0", got)
		}
		for _, sum := range starts() {
			if got := crc.On(sum, none); got != sum {
				t.Errorf("On(%08X, none) = %08X", sum, got)
			}
		}
	}
}

// P2.1: each of the 256 bytes alone, from each sum to go on from.
func TestOneByte(t *testing.T) {
	for x := 0; x < 256; x++ {
		b := []byte{byte(x)}
		if got, want := crc.Of(b), sumOf(b); got != want {
			t.Errorf("Of(%02X) = %08X, want %08X", x, got, want)
		}
		for _, sum := range starts() {
			if got, want := crc.On(sum, b), goneOn(sum, b); got != want {
				t.Errorf("On(%08X, %02X) = %08X, want %08X", sum, x, got, want)
			}
		}
	}
}

// P2.1: lists of all short lengths, and long ones, held against the chapter's words and against another's sum.
func TestLists(t *testing.T) {
	m := mixer(2)
	lengths := []int{1000, 4095, 4096, 4097, 65535, 65536, 65537, 262144}
	for n := 0; n <= 300; n++ {
		lengths = append(lengths, n)
	}
	for _, n := range lengths {
		b := m.bytes(n)
		got, want, other := crc.Of(b), sumOf(b), crc32.ChecksumIEEE(b)
		if got != want || got != other {
			t.Errorf("Of(%d bytes) = %08X, want %08X, or %08X", n, got, want, other)
		}
		sum := m.next()
		if got, want, other := crc.On(sum, b), goneOn(sum, b), crc32.Update(sum, crc32.IEEETable, b); got != want || got != other {
			t.Errorf("On(%08X, %d bytes) = %08X, want %08X, or %08X", sum, n, got, want, other)
		}
	}
}

// P2.1: lists of one byte again and again, which meet the same things over and over.
func TestListsOfOneByte(t *testing.T) {
	for x := 0; x < 256; x++ {
		b := bytes.Repeat([]byte{byte(x)}, 600)
		if got, want := crc.Of(b), sumOf(b); got != want {
			t.Errorf("Of(600 times %02X) = %08X, want %08X", x, got, want)
		}
	}
}

// P2.1: from each sum to go on from, lists of several lengths.
func TestSumsToGoOnFrom(t *testing.T) {
	m := mixer(3)
	for _, sum := range starts() {
		for _, n := range []int{1, 2, 3, 4, 5, 8, 64, 700} {
			b := m.bytes(n)
			if got, want := crc.On(sum, b), goneOn(sum, b); got != want {
				t.Errorf("On(%08X, % X) = %08X, want %08X", sum, b, got, want)
			}
		}
	}
}

// P2.1: Of begins where nothing has come yet: going on from 0 is the same.
func TestOfIsOnFromNothing(t *testing.T) {
	m := mixer(4)
	for n := 0; n < 80; n++ {
		b := m.bytes(n)
		if of, on := crc.Of(b), crc.On(0, b); of != on {
			t.Errorf("Of(% X) = %08X, On(0, the same) = %08X", b, of, on)
		}
	}
}

// P2.1: what is handed in is only read, what stands around it and its spare room with it.
func TestArgumentsAreOnlyRead(t *testing.T) {
	m := mixer(5)
	for _, n := range []int{0, 1, 3, 4, 5, 31, 300} {
		whole := m.bytes(n + 40)
		before := bytes.Clone(whole)
		b := whole[8 : 8+n]
		crc.Of(b)
		crc.On(0xFFFFFFFF, b)
		crc.On(m.next(), b)
		if !bytes.Equal(whole, before) {
			t.Errorf("with %d bytes: % X became % X", n, before, whole)
		}
	}
}

// P2.1: spare room behind the bytes, and what stands ahead of them, has no say.
func TestOnlyTheListCounts(t *testing.T) {
	m := mixer(6)
	for n := 0; n < 40; n++ {
		whole := m.bytes(n + 40)
		b := whole[8 : 8+n]
		want := crc.Of(b)
		for i := range whole {
			if i < 8 || i >= 8+n {
				whole[i] ^= 0xFF
			}
		}
		if got := crc.Of(b); got != want || got != crc.Of(bytes.Clone(b)) {
			t.Errorf("the sum of %d bytes was %08X, then %08X", n, want, got)
		}
	}
}

// P2.1, R2: nothing is kept from call to call: the same question is answered alike, whatever was asked between.
func TestCallsDoNotHangTogether(t *testing.T) {
	m := mixer(7)
	b := m.bytes(100)
	of, on := crc.Of(b), crc.On(0xFFFFFFFF, b)
	for i := 0; i < 200; i++ {
		crc.On(m.next(), m.bytes(i))
		if crc.Of(b) != of || crc.On(0xFFFFFFFF, b) != on {
			t.Fatalf("behind %d other calls the sums were %08X and %08X, not %08X and %08X", i+1, crc.Of(b), crc.On(0xFFFFFFFF, b), of, on)
		}
	}
	kept := crc.Of(b)
	spoilt := bytes.Clone(b)
	spoilt[50]++
	if crc.Of(spoilt) == kept || crc.Of(spoilt) != sumOf(spoilt) {
		t.Errorf("a byte that changed did not change the sum %08X", kept)
	}
}
