package pack_test

import (
	"bytes"
	"encoding/binary"
	"math/bits"
	"testing"

	"incunable/api"
	"incunable/pack"
)

// P3.5: what was packed is unpacked as it was.
func TestPackedIsUnpacked(t *testing.T) {
	m := mixer(12)
	look := func(kind int, l []api.Section) {
		t.Helper()
		unpacksTo(t, "what was packed", mustPack(t, kind, l), kind, l)
	}
	for kind := range 256 {
		look(kind, nil)
		look(kind, []api.Section{section(1, nil)})
		look(kind, m.sections())
		look(kind, m.sections())
	}
	for _, n := range []int{0, 1, 127, 128, 16383, 16384, 65535, 65536, 65537, 180000, api.MaxPack - 15} {
		look(1, []api.Section{section(255, m.bytes(n))})
	}
	// A pack within a pack, and one within that.
	_, l, b := example()
	for range 5 {
		l = append(l, section(l[len(l)-1].Tag+1, b))
		look(9, l)
		b = mustPack(t, 9, l)
	}
}

// bodyIsRight tells whether bytes are sections, by the chapter's words; short ones alone, whose numbers have two bytes at most.
func bodyIsRight(b []byte) bool {
	last := byte(0)
	for len(b) > 0 {
		if len(b) < 2 || b[0] <= last {
			return false
		}
		n, size := int(b[1]), 2
		if b[1] >= 128 {
			if len(b) < 3 || b[2] == 0 {
				return false
			}
			n, size = n-128+128*int(b[2]), 3
		}
		if len(b)-size < n {
			return false
		}
		last, b = b[0], b[size+n:]
	}
	return true
}

// lookBody fails unless bytes, with all right around them, are a pack just if they are sections, and are packed as they were then.
func lookBody(t *testing.T, body []byte) (right bool) {
	t.Helper()
	b := around(5, body)
	kind, l, e := pack.Unpack(b)
	if right = bodyIsRight(body); !right {
		if kind != 0 || len(l) != 0 || e != api.ErrSyntax {
			t.Fatalf("% X: %d, %d sections, error %d; want ErrSyntax alone", body, kind, len(l), e)
		}
		return right
	}
	if kind != 5 || e != api.OK {
		t.Fatalf("% X: %d, error %d", body, kind, e)
	}
	if again := mustPack(t, kind, l); !bytes.Equal(again, b) {
		t.Fatalf("% X is read as %v, and written as % X", b, l, again)
	}
	return right
}

// P3.5, P3.3: all bytes of up to two, and many of up to six, that stand where sections should: what can be unpacked is packed so, all else is refused.
func TestUnpackedIsPacked(t *testing.T) {
	lookBody(t, nil)
	for a := range 256 {
		lookBody(t, []byte{byte(a)})
		for b := range 256 {
			lookBody(t, []byte{byte(a), byte(b)})
		}
	}
	right := 0
	some := []byte{0, 1, 2, 3, 0x80, 0x81, 0xFF}
	var all func(body []byte)
	all = func(body []byte) {
		if lookBody(t, body) {
			right++
		}
		if len(body) < 6 {
			for _, c := range some {
				all(append(body[:len(body):len(body)], c))
			}
		}
	}
	all(nil)
	if right < 100 {
		t.Errorf("only %d of these were right", right)
	}
}

// P3.5: long lists whose data's numbers have two bytes, shortest or not.
func TestUnpackedLongerOnesArePacked(t *testing.T) {
	m := mixer(13)
	right := 0
	for n := range 1 << 14 {
		body := append([]byte{byte(1 + n%255), byte(n) | 0x80, byte(n >> 7)}, make([]byte, n)...)
		if m.below(8) == 0 {
			body = body[:m.below(len(body)+1)]
		}
		if lookBody(t, body) {
			right++
		}
	}
	if right < 10000 {
		t.Errorf("only %d of these were right", right)
	}
}

// P3.5: no two kinds and lists have the same bytes.
func TestNoTwoPacksAreAlike(t *testing.T) {
	seen := make(map[string]bool)
	n := 0
	texts := [][]byte{nil, {0}, {1}, {2, 0}, {0, 2}, {1, 1, 0}}
	for _, kind := range []int{0, 1, 2, 255} {
		for one := 0; one < 3; one++ {
			for two := one + 1; two < 5; two++ {
				for _, a := range texts {
					for _, b := range texts {
						l := []api.Section{section(one, a), section(two, b)}
						if one == 0 {
							l = l[1:]
							if len(a) > 0 {
								continue
							}
						}
						seen[string(mustPack(t, kind, l))] = true
						n++
					}
				}
			}
		}
	}
	if len(seen) != n {
		t.Errorf("%d packs have %d ways", n, len(seen))
	}
}

// turn turns the bits of b that are 1 in which, from the bit at on (in each byte the lowest one first).
func turn(b []byte, at int, which uint32) {
	for ; which != 0; which &= which - 1 {
		bit := at + bits.TrailingZeros32(which)
		b[bit/8] ^= 1 << (bit % 8)
	}
}

// lookTurned fails if a pack with turned bits is one still.
func lookTurned(t *testing.T, b []byte, at int, which uint32) {
	t.Helper()
	turn(b, at, which)
	kind, l, e := pack.Unpack(b)
	if kind != 0 || len(l) != 0 || e == api.OK {
		t.Errorf("of %d bytes the bits %b from the bit %d on were turned: %d, %d sections, error %d", len(b), which, at, kind, len(l), e)
	}
	turn(b, at, which)
}

// P3.6: all turnings of up to nine bits side by side, anywhere in a pack.
func TestFewTurnedBits(t *testing.T) {
	_, _, small := example()
	for _, b := range [][]byte{small, bytesOf(0, nil), bytesOf(255, []api.Section{section(1, []byte("text")), section(2, nil)})} {
		for at := range 8 * len(b) {
			for which := uint32(1); which < 1<<9; which += 2 {
				if at+bits.Len32(which) <= 8*len(b) {
					lookTurned(t, b, at, which)
				}
			}
		}
		if _, _, e := pack.Unpack(b); e != api.OK {
			t.Fatalf("the pack itself: error %d", e)
		}
	}
}

// P3.6: turnings of up to 32 bits, wherever they begin: over the size, the kind, sections, the sum, and from one into the other.
func TestTurnedBits(t *testing.T) {
	m := mixer(14)
	packs := [][]byte{bytesOf(0, nil), bytesOf(7, []api.Section{section(1, m.bytes(5)), section(9, nil), section(77, m.bytes(20))})}
	for range 6 {
		packs = append(packs, mustPack(t, m.below(256), m.sections()))
	}
	for _, b := range packs {
		for at := 0; at+32 <= 8*len(b); at++ {
			for _, which := range []uint32{0xFFFFFFFF, 0x80000001, 1, 0x80000000, 0xEDB88320, 0xDB710641, 0x04C11DB7, 0x82608EDB} {
				lookTurned(t, b, at, which)
			}
			for range 20 {
				lookTurned(t, b, at, m.next()|1)
			}
		}
	}
}

// P3.6: bits of the size that are turned so that just as many bytes are told to be there as are: what is cut, or has something behind it, is none, whatever sum it has.
func TestTurnedSizes(t *testing.T) {
	_, _, b := example()
	for size := range uint32(4000) {
		wrong := bytes.Clone(b)
		binary.LittleEndian.PutUint32(wrong[2:], size)
		if size == 16 {
			continue
		}
		unpackFails(t, wrong)
		if size < 16 {
			unpackFails(t, wrong[:size])
		} else {
			unpackFails(t, append(wrong, make([]byte, size-16)...))
		}
	}
}

func unpackFails(t *testing.T, b []byte) {
	t.Helper()
	if kind, l, e := pack.Unpack(b); kind != 0 || len(l) != 0 || e == api.OK {
		t.Errorf("% X: %d, %d sections, error %d", b[:min(len(b), 20)], kind, len(l), e)
	}
}

// P3.6: in the greatest pack, at its beginning, at its end, and between.
func TestTurnedBitsOfTheGreatest(t *testing.T) {
	m := mixer(15)
	b := mustPack(t, 3, []api.Section{section(1, m.bytes(100000)), section(2, m.bytes(api.MaxPack-100019))})
	if len(b) != api.MaxPack {
		t.Fatalf("%d bytes", len(b))
	}
	last := 8*len(b) - 32
	for _, at := range []int{0, 1, 15, 16, 17, 40, 47, 48, 56, 64, last / 3, last / 2, last - 33, last - 32, last - 31, last - 1, last} {
		lookTurned(t, b, at, 0xFFFFFFFF)
		for range 4 {
			lookTurned(t, b, at, m.next()|1)
		}
	}
}

// R1: whatever bytes come, no call panics; and what is no pack is answered by one of the chapter's errors alone.
func TestWhateverComes(t *testing.T) {
	m := mixer(16)
	may := map[api.Errno]int{api.OK: 0, api.ErrTrunc: 0, api.ErrSyntax: 0, api.ErrLimit: 0, api.ErrSum: 0}
	for i := range 200000 {
		b := m.bytes(m.below(40))
		switch i % 5 {
		case 1:
			copy(b, "IP")
		case 2:
			copy(b, head(uint32(len(b))))
		case 3:
			b = withSum(append(head(uint32(len(b)+10)), b...))
		case 4:
			for j := range b {
				b[j] %= 4
			}
			b = around(i, b)
		}
		kind, l, e := pack.Unpack(b)
		if _, is := may[e]; !is || e != api.OK && (kind != 0 || len(l) != 0) {
			t.Fatalf("% X: %d, %d sections, error %d", b, kind, len(l), e)
		}
		may[e]++
		if e == api.OK && !bytes.Equal(mustPack(t, kind, l), b) {
			t.Fatalf("% X is packed in another way", b)
		}
	}
	for e, n := range may {
		if n == 0 {
			t.Errorf("error %d never came", e)
		}
	}
}
