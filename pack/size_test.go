package pack_test

import (
	"encoding/binary"
	"math"
	"slices"
	"testing"

	"incunable/api"
	"incunable/pack"
)

// head is a pack's first six bytes, with a size that is told.
func head(size uint32) []byte {
	return binary.LittleEndian.AppendUint32([]byte{0x49, 0x50}, size)
}

func sizeIs(t *testing.T, b []byte, want int, err api.Errno) {
	t.Helper()
	if n, e := pack.Size(b); n != want || e != err {
		t.Errorf("Size(% X): %d, error %d; want %d, error %d", b[:min(len(b), 9)], n, e, want, err)
	}
}

// P3.2: no bytes, and each beginning of six.
func TestSizeOfBeginnings(t *testing.T) {
	sizeIs(t, nil, 0, api.ErrTrunc)
	sizeIs(t, []byte{}, 0, api.ErrTrunc)
	// The size need not be there whole to be too small, or too great: that there are too few bytes is told.
	for _, size := range []uint32{0, 10, 11, 16, 300, api.MaxPack, api.MaxPack + 1, math.MaxUint32} {
		for i := range 6 {
			sizeIs(t, head(size)[:i], 0, api.ErrTrunc)
		}
	}
	sizeIs(t, head(16), 16, api.OK)
}

// P3.2: each wrong first byte, each wrong second byte, however many there are behind; that comes ahead of all.
func TestSizeOfWrongMarks(t *testing.T) {
	for at, right := range []byte{0x49, 0x50} {
		for x := range 256 {
			for _, size := range []uint32{0, 10, 11, 300, api.MaxPack + 1} {
				b := append(head(size), 1, 2, 3, 4, 5)
				b[at] = byte(x)
				if byte(x) == right {
					continue
				}
				for n := at + 1; n <= len(b); n++ {
					sizeIs(t, b[:n], 0, api.ErrSyntax)
				}
			}
		}
	}
	sizeIs(t, []byte{0x50, 0x49}, 0, api.ErrSyntax)
	sizeIs(t, []byte{0x50, 0x50, 11, 0, 0, 0}, 0, api.ErrSyntax)
	sizeIs(t, []byte{0x49, 0x49, 11, 0, 0, 0}, 0, api.ErrSyntax)
	sizeIs(t, []byte{0, 0}, 0, api.ErrSyntax)
	sizeIs(t, []byte{0x50}, 0, api.ErrSyntax)
}

// P3.2: sizes told, at each edge; nothing but the first six bytes counts.
func TestSizesTold(t *testing.T) {
	m := mixer(3)
	look := func(size uint32, want int, e api.Errno) {
		t.Helper()
		sizeIs(t, head(size), want, e)
		for n := range 12 {
			sizeIs(t, append(head(size), m.bytes(n)...), want, e)
		}
	}
	for size := range uint32(11) {
		look(size, 0, api.ErrSyntax)
	}
	for _, size := range []uint32{11, 12, 16, 127, 128, 255, 256, 257, 0x0102, 0x0201, 65535, 65536, 0x010203, 0x030201, 0x03FFFF, api.MaxPack - 1, api.MaxPack} {
		look(size, int(size), api.OK)
	}
	for _, size := range []uint32{api.MaxPack + 1, api.MaxPack + 11, 1 << 19, 1 << 24, 1<<24 + 16, 0x10000010, math.MaxInt32, 1 << 31, 1<<31 + 16, math.MaxUint32 - 10, math.MaxUint32} {
		look(size, 0, api.ErrLimit)
	}
	for size := uint32(11); size <= api.MaxPack; size += 97 {
		sizeIs(t, head(size), int(size), api.OK)
	}
	for range 20000 {
		if size := m.next() | 1<<(19+m.below(13)); size > api.MaxPack {
			sizeIs(t, head(size), 0, api.ErrLimit)
		}
	}
}

// P3.2: of packs, whole, cut behind the sixth byte, and with others behind.
func TestSizeOfPacks(t *testing.T) {
	m := mixer(4)
	for range 200 {
		l := m.sections()
		b := mustPack(t, m.below(256), l)
		sizeIs(t, b, len(b), api.OK)
		sizeIs(t, b[:6], len(b), api.OK)
		sizeIs(t, b[:6+m.below(len(b)-6)], len(b), api.OK)
		sizeIs(t, slices.Concat(b, b), len(b), api.OK)
		sizeIs(t, slices.Concat(b, m.bytes(m.below(40))), len(b), api.OK)
	}
}
