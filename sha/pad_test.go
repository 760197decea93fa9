package sha_test

import (
	"bytes"
	"testing"

	"incunable/sha"
)

// P4.2: bytes ahead of, at, and behind each edge: how long what comes is, and where the mark and the count of bits stand.
func TestPadAtTheEdges(t *testing.T) {
	for _, c := range []struct {
		n, size int
		count   [8]byte
	}{
		{0, 64, [8]byte{}},
		{1, 64, [8]byte{7: 8}},
		{31, 64, [8]byte{7: 0xF8}},
		{32, 64, [8]byte{6: 1}},
		{54, 64, [8]byte{6: 1, 7: 0xB0}},
		{55, 64, [8]byte{6: 1, 7: 0xB8}},
		{56, 128, [8]byte{6: 1, 7: 0xC0}},
		{57, 128, [8]byte{6: 1, 7: 0xC8}},
		{62, 128, [8]byte{6: 1, 7: 0xF0}},
		{63, 128, [8]byte{6: 1, 7: 0xF8}},
		{64, 128, [8]byte{6: 2}},
		{65, 128, [8]byte{6: 2, 7: 8}},
		{118, 128, [8]byte{6: 3, 7: 0xB0}},
		{119, 128, [8]byte{6: 3, 7: 0xB8}},
		{120, 192, [8]byte{6: 3, 7: 0xC0}},
		{121, 192, [8]byte{6: 3, 7: 0xC8}},
		{128, 192, [8]byte{6: 4}},
		{8191, 8256, [8]byte{6: 0xFF, 7: 0xF8}},
		{8192, 8256, [8]byte{5: 1}},
		{1 << 21, 1<<21 + 64, [8]byte{4: 1}},
	} {
		b := bytes.Repeat([]byte{0xA5}, c.n)
		p := sha.Pad(b)
		if len(p) != c.size {
			t.Errorf("%d bytes were made %d, want %d", c.n, len(p), c.size)
			continue
		}
		noughts := p[c.n+1 : c.size-8]
		if !bytes.Equal(p[:c.n], b) || p[c.n] != 128 || len(bytes.Trim(noughts, "\x00")) > 0 || [8]byte(p[c.size-8:]) != c.count {
			t.Errorf("%d bytes: behind them stand % x", c.n, p[c.n:])
		}
	}
}

// P4.2: each short length, with any bytes, those with noughts and marks at their end too.
func TestPadOfEachLength(t *testing.T) {
	m := mixer(31)
	for n := range 400 {
		for _, b := range [][]byte{m.bytes(n), make([]byte, n), bytes.Repeat([]byte{0x80}, n), bytes.Repeat([]byte{0xFF}, n)} {
			if got := sha.Pad(b); !bytes.Equal(got, padded(b)) {
				t.Fatalf("Pad(% x) = % x", b, got)
			}
		}
	}
}

// P4.2: no bytes, be the list nil or not.
func TestPadOfNoBytes(t *testing.T) {
	want := append([]byte{0x80}, make([]byte, 63)...)
	for _, none := range [][]byte{nil, {}, make([]byte, 0, 100), []byte("abc")[3:]} {
		if got := sha.Pad(none); !bytes.Equal(got, want) {
			t.Errorf("Pad of no bytes: % x", got)
		}
	}
}

// P4.2: the count of bits has more than 32 of them where a list is that long.
func TestPadCountsPast32Bits(t *testing.T) {
	const n = 1<<29 + 5
	p := sha.Pad(make([]byte, n))
	if len(p) != 1<<29+64 {
		t.Fatalf("%d bytes", len(p))
	}
	if got := [8]byte(p[len(p)-8:]); got != [8]byte{3: 1, 7: 40} || p[n] != 128 {
		t.Errorf("the count is % x, ahead of the noughts stands %d", got, p[n])
	}
}

// P4.2: the blocks tell where the list ends, be there noughts or the mark at its end.
func TestPadTellsListsApart(t *testing.T) {
	seen := make(map[string]int)
	for n := range 300 {
		for _, b := range [][]byte{make([]byte, n), append(make([]byte, n), 0x80)} {
			p := string(sha.Pad(b))
			if other, is := seen[p]; is {
				t.Errorf("lists of %d and %d bytes are padded alike", other, len(b))
			}
			seen[p] = len(b)
		}
	}
}
