package sha_test

import (
	"bytes"
	"crypto/sha256"
	"encoding"
	"encoding/binary"
	"testing"

	"incunable/api"
	"incunable/sha"
)

// elsewhere is what a block makes of eight words as the library's digest has it: it is set to these words, handed the block, and read out again.
func elsewhere(t *testing.T, h [8]uint32, b []byte) [8]uint32 {
	t.Helper()
	d := sha256.New()
	state, err := d.(encoding.BinaryMarshaler).MarshalBinary()
	if err != nil {
		t.Fatal(err)
	}
	const mark = 4
	for i, w := range h {
		binary.BigEndian.PutUint32(state[mark+4*i:], w)
	}
	if err := d.(encoding.BinaryUnmarshaler).UnmarshalBinary(state); err != nil {
		t.Fatal(err)
	}
	d.Write(b)
	if state, err = d.(encoding.BinaryMarshaler).MarshalBinary(); err != nil {
		t.Fatal(err)
	}
	for i := range h {
		h[i] = binary.BigEndian.Uint32(state[mark+4*i:])
	}
	return h
}

// lookBlock fails unless the block makes what the chapter's words, and the library's digest, make.
func lookBlock(t *testing.T, h [8]uint32, b []byte) {
	t.Helper()
	got := mustBlock(t, h, b)
	if want := blockOf(h, b); got != want {
		t.Errorf("of %08x % x makes %08x, want %08x", h, b, got, want)
	}
	if want := elsewhere(t, h, b); got != want {
		t.Errorf("of %08x % x makes %08x, elsewhere %08x", h, b, got, want)
	}
}

// P4.3: the block of "abc", as FIPS 180-4's example has it.
func TestBlockExample(t *testing.T) {
	want := [8]uint32{0xba7816bf, 0x8f01cfea, 0x414140de, 0x5dae2223, 0xb00361a3, 0x96177a9c, 0xb410ff61, 0xf20015ad}
	if got := mustBlock(t, publishedBegin(), padded([]byte("abc"))); got != want {
		t.Errorf("%08x, want %08x", got, want)
	}
}

// P4.3: any words and any blocks.
func TestBlocks(t *testing.T) {
	m := mixer(41)
	for range 500 {
		lookBlock(t, m.words(), m.bytes(64))
	}
}

// P4.3: words and blocks of noughts, of ones, and with one bit alone, wherever it stands.
func TestBlocksOfFewBits(t *testing.T) {
	var noughts, ones [8]uint32
	for i := range ones {
		ones[i] = 0xFFFFFFFF
	}
	full := bytes.Repeat([]byte{0xFF}, 64)
	for _, h := range [][8]uint32{noughts, ones, publishedBegin()} {
		lookBlock(t, h, make([]byte, 64))
		lookBlock(t, h, full)
		for i := range 512 {
			b := make([]byte, 64)
			b[i/8] = 1 << (i % 8)
			lookBlock(t, h, b)
		}
	}
	for i := range 256 {
		var h [8]uint32
		h[i/32] = 1 << (i % 32)
		lookBlock(t, h, make([]byte, 64))
		lookBlock(t, h, full)
	}
}

// P4.3: whatever is not 64 bytes long is refused, the words too.
func TestBlockOfOtherSizes(t *testing.T) {
	m := mixer(42)
	sizes := []int{192, 256, 320, 64 * 64, 65536, 65600}
	for n := range 130 {
		if n != 64 {
			sizes = append(sizes, n)
		}
	}
	for _, n := range sizes {
		if h, e := sha.Block(m.words(), m.bytes(n)); h != ([8]uint32{}) || e != api.ErrArg {
			t.Errorf("Block of %d bytes: %08x, error %d; want error %d alone", n, h, e, api.ErrArg)
		}
	}
	for _, none := range [][]byte{nil, {}, make([]byte, 0, 64), make([]byte, 63, 64)} {
		if h, e := sha.Block(publishedBegin(), none); h != ([8]uint32{}) || e != api.ErrArg {
			t.Errorf("Block of %d bytes, with room for %d: %08x, error %d; want error %d alone", len(none), cap(none), h, e, api.ErrArg)
		}
	}
}

// P4.3: a block that is cut from a longer list is that block alone.
func TestBlockWithinAList(t *testing.T) {
	m := mixer(43)
	whole := m.bytes(200)
	for at := 0; at+64 <= len(whole); at++ {
		lookBlock(t, publishedBegin(), whole[at:at+64])
	}
}
