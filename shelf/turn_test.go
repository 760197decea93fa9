package shelf_test

import (
	"testing"

	"incunable/api"
	"incunable/disk"
)

// turns turns the bits of a file that are 1 in which, from the bit at on (of each byte the lowest one first).
func turns(t *testing.T, d *disk.Disk, name string, at int, which uint32) {
	t.Helper()
	for i := range 32 {
		if which>>i&1 == 1 {
			if e := d.Turn(name, (at+i)/8, (at+i)%8); e != api.OK {
				t.Fatalf("Turn: error %d", e)
			}
		}
	}
}

// P7.9: at each place of a file 1 to 32 bits, one behind the other: all of them, the first and the last one alone, some between. Others' data is there all the while.
func TestTurnedBits(t *testing.T) {
	m := mixer(7)
	for _, pair := range [][2]string{{"a", ""}, {"a", "x"}, {"a", "\x00\x00\x00\x00\x00"}, {long(20), long(40)}} {
		key, data := pair[0], pair[1]
		d, s := begun(t, 1000, key, data, "b", "y")
		size := 8 * len(written(key, data))
		for length := 1; length <= 32; length++ {
			ends := uint32(1) | 1<<(length-1)
			all := ^uint32(0) >> (32 - length)
			for at := 0; at+length <= size; at++ {
				for _, which := range []uint32{all, ends, ends | m.next()&all} {
					turns(t, d, nameOf(key, 0), at, which)
					lacks(t, s, api.ErrCorrupt, key)
					turns(t, d, nameOf(key, 0), at, which)
				}
			}
		}
		gets(t, s, key, data, "b", "y")
		tells(t, s, 0, key, "b")
	}
}

// P7.9: every way to turn some of 10 bits that stand one behind the other, at each place.
func TestEachWayToTurnBits(t *testing.T) {
	d, s := begun(t, 1000, "a", "x")
	for at := 0; at+10 <= 8*len(written("a", "x")); at++ {
		for which := uint32(1); which < 1<<10; which++ {
			turns(t, d, nameOf("a", 0), at, which)
			lacks(t, s, api.ErrCorrupt, "a")
			turns(t, d, nameOf("a", 0), at, which)
		}
	}
	gets(t, s, "a", "x")
}

// P7.9: if another file has the data they are answered; Keys, Bad and Sweep look at that one.
func TestTurnedBitsBesideARightFile(t *testing.T) {
	m := mixer(8)
	whole := written("a", "some data")
	for range 2000 {
		d, s := laid(t, nameOf("a", 0), whole, nameOf("a", 1), whole)
		n := m.below(2)
		turns(t, d, nameOf("a", n), m.below(8*len(whole)-31), m.next()|1)
		gets(t, s, "a", "some data")
		tells(t, s, 1, "a")
		must(t, s.Sweep(lists("a")))
		hasFiles(t, d, nameOf("a", 1-n), whole)
		gets(t, s, "a", "some data")
		tells(t, s, 0, "a")
	}
}

// P7.9: if the file's name is of another key's digest there is none of its key, turned or not.
func TestTurnedBitsUnderAnotherName(t *testing.T) {
	m := mixer(9)
	whole := written("a", "some data")
	d, s := laid(t, nameOf("b", 0), whole)
	for range 5000 {
		at, which := m.below(8*len(whole)-31), m.next()|1
		turns(t, d, nameOf("b", 0), at, which)
		lacks(t, s, api.OK, "a")
		lacks(t, s, api.ErrCorrupt, "b")
		tells(t, s, 1)
		turns(t, d, nameOf("b", 0), at, which)
		lacks(t, s, api.OK, "a", "b")
		tells(t, s, 0, "a")
	}
}

// P7.9: in the greatest file that there can be.
func TestTurnedBitsOfALongOne(t *testing.T) {
	m := mixer(10)
	key, data := long(mostKey), long(mostData)
	d, s := begun(t, 1<<20, key, data, "b", "y")
	size := 8 * len(written(key, data))
	places := []int{0, 8 * 6, 8 * 7, 8*11 + 5, 8 * (mostKey + 5), 8 * (mostKey + 11), 8*(mostKey+11) + 3, size - 32, size - 64, size - 33}
	for range 60 {
		places = append(places, m.below(size-31))
	}
	for _, at := range places {
		which := m.next() | 1
		turns(t, d, nameOf(key, 0), at, which)
		lacks(t, s, api.ErrCorrupt, key)
		turns(t, d, nameOf(key, 0), at, which)
	}
	gets(t, s, key, data, "b", "y")
}

// P7.9: behind ErrCorrupt nothing is lost: when the bits are turned back the data are there. When others were put meanwhile, those of the least number are.
func TestTurnedBack(t *testing.T) {
	d, s := begun(t, 1000, "a", "x")
	turns(t, d, nameOf("a", 0), 80, 5)
	for range 3 {
		lacks(t, s, api.ErrCorrupt, "a")
		falls(d)
		s = opens(t, d)
	}
	puts(t, s, "a", "y")
	gets(t, s, "a", "y")
	turns(t, d, nameOf("a", 0), 80, 5)
	gets(t, s, "a", "x")
	tells(t, s, 0, "a")
	must(t, s.Sweep(lists("a")))
	gets(t, s, "a", "x")
	hasFiles(t, d, nameOf("a", 0), written("a", "x"))
}

// P7.9: what was turned is found turned behind a fall, too, and by another shelf.
func TestTurnedBehindAFall(t *testing.T) {
	m := mixer(11)
	size := 8 * len(written("a", "x"))
	for at := range size - 31 {
		d, s := begun(t, 1000, "a", "x", "b", "y")
		turns(t, d, nameOf("a", 0), at, m.next()|1)
		falls(d, m.keep()...)
		s = opens(t, d)
		lacks(t, s, api.ErrCorrupt, "a")
		gets(t, s, "b", "y")
		must(t, s.Sweep(lists("a", "b")))
		lacks(t, s, api.OK, "a")
		tells(t, s, 0, "b")
	}
}
