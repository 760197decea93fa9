package journal_test

import (
	"testing"

	"incunable/api"
	"incunable/disk"
)

// turns turns the bits of "journal" that are 1 in which, from the bit at on (of each byte the lowest one first).
func turns(t *testing.T, d *disk.Disk, at int, which uint32) {
	t.Helper()
	for i := range 32 {
		if which>>i&1 == 1 {
			if e := d.Turn("journal", (at+i)/8, (at+i)%8); e != api.OK {
				t.Fatalf("Turn: error %d", e)
			}
		}
	}
}

// P6.7: at each place 1 to 32 bits, one behind the other: all of them, the first and the last one alone, some between.
func TestTurnedBits(t *testing.T) {
	m := mixer(7)
	for _, l := range [][]string{{""}, {"a"}, {"", "", "b"}, {"first", "\x00\x00\x00\x00", "", long(40)}} {
		b := written(l...)
		d := laid(t, b)
		for length := 1; length <= 32; length++ {
			ends := uint32(1) | 1<<(length-1)
			all := ^uint32(0) >> (32 - length)
			for at := 0; at+length <= 8*len(b); at++ {
				for _, which := range []uint32{all, ends, ends | m.next()&all} {
					turns(t, d, at, which)
					refuses(t, d, api.ErrCorrupt)
					turns(t, d, at, which)
				}
			}
		}
		opens(t, d, l...)
		hasFiles(t, d, "journal", string(b))
	}
}

// P6.7: every way to turn some of 12 bits that stand one behind the other, at each place of the last record and of the end of the one ahead.
func TestEachWayToTurnBits(t *testing.T) {
	b := written("a", "b")
	d := laid(t, b)
	for at := 8 * 15; at+12 <= 8*len(b); at += 3 {
		for which := uint32(1); which < 1<<12; which++ {
			turns(t, d, at, which)
			refuses(t, d, api.ErrCorrupt)
			turns(t, d, at, which)
		}
	}
	opens(t, d, "a", "b")
}

// P6.7: so in a journal that was made by calls, appended to behind a checkpoint and a fall; also in what is not synced yet.
func TestTurnedBitsOfAUsedOne(t *testing.T) {
	m := mixer(8)
	d, j := begun(t, 1000, "a", "b")
	must(t, j.Checkpoint(lists("one", "", "three")), j.Append([]byte("four")), j.Sync(), j.Append([]byte("five")))
	falls(d, 0, 23)
	j = opens(t, d, "one", "", "three", "four")
	must(t, j.Append([]byte("5")))
	want := []string{"one", "", "three", "four", "5"}
	size := 8 * len(written(want...))
	for range 30000 {
		length := 1 + m.below(32)
		at := m.below(size - length + 1)
		which := (1 | 1<<(length-1) | m.next()) & (^uint32(0) >> (32 - length))
		turns(t, d, at, which)
		refuses(t, d, api.ErrCorrupt)
		turns(t, d, at, which)
	}
	opens(t, d, want...)
}

// P6.7: in the longest record, and in those beside it.
func TestTurnedBitsOfALongOne(t *testing.T) {
	m := mixer(9)
	most := long(api.MaxPack)
	b := written("a", most, "b")
	d := laid(t, b)
	size := 8 * len(b)
	places := []int{0, 8 * 21, 8*21 + 31, 8 * 37, size - 32, size - 8*21, size - 8*25, size - 8*22}
	for range 200 {
		places = append(places, m.below(size-31))
	}
	for _, at := range places {
		which := m.next() | 1
		turns(t, d, at, which)
		refuses(t, d, api.ErrCorrupt)
		turns(t, d, at, which)
	}
	opens(t, d, "a", most, "b")
}

// P6.7: behind ErrCorrupt nothing is mended, nor lost: when the bits are turned back all is there.
func TestTurnedBack(t *testing.T) {
	d := laid(t, written("a", "b", "c"))
	for range 3 {
		turns(t, d, 8*16, 1)
		for range 3 {
			refuses(t, d, api.ErrCorrupt)
			falls(d)
		}
		turns(t, d, 8*16, 1)
		j := opens(t, d, "a", "b", "c")
		must(t, j.Sync())
	}
}

// P6.7: a journal that is in use does not look at what it has written; the next Open does.
func TestTurnedWhileInUse(t *testing.T) {
	d, j := begun(t, 1000, "a", "b")
	turns(t, d, 3, 0x80000001)
	must(t, j.Append([]byte("c")), j.Sync())
	tells(t, j, 3, 3)
	refuses(t, d, api.ErrCorrupt)
	must(t, j.Checkpoint(lists("a", "b", "c")))
	opens(t, d, "a", "b", "c")
}
