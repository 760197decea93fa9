package shelf_test

import (
	"testing"

	"incunable/api"
)

// P7.3: what is no key.
func TestGetOfNoKey(t *testing.T) {
	d, s := laid(t, nameOf("", 0), written("", "x"), nameOf(long(mostKey+1), 0), written(long(mostKey+1), "y"), nameOf("a", 0), written("a", "z"))
	noWork(t, d, func() {
		lacks(t, s, api.ErrArg, "", long(mostKey+1), long(mostKey*2))
		for _, key := range [][]byte{nil, {}} {
			if _, _, e := s.Get(key); e != api.ErrArg {
				t.Fatalf("error %d", e)
			}
		}
	})
}

// P7.3: a key that is there, and such as are not; nothing is done to the disk.
func TestGet(t *testing.T) {
	d, s := begun(t, 1<<20, "a", "x", "b", "", "\x00", long(1000), long(mostKey), "y")
	noWork(t, d, func() {
		for range 2 {
			gets(t, s, "a", "x", "b", "", "\x00", long(1000), long(mostKey), "y")
			lacks(t, s, api.OK, "c", "aa", "A", "a\x00", long(mostKey-1))
		}
	})
}

// P7.3: of a key of which only files that can't be read are there: ErrCorrupt.
func TestGetOfUnreadable(t *testing.T) {
	for what, text := range unreadable() {
		t.Run(what, func(t *testing.T) {
			_, s := laid(t, nameOf("a", 0), text, nameOf("b", 0), written("b", "y"))
			lacks(t, s, api.ErrCorrupt, "a")
			gets(t, s, "b", "y")
			lacks(t, s, api.OK, "c")
			_, s = laid(t, nameOf("a", 3), text, nameOf("a", 2), written("c", "y"), nameOf("a", 77), written("b", "z"))
			lacks(t, s, api.ErrCorrupt, "a")
			_, s = laid(t, nameOf("b", 3), text, nameOf("a", 2), written("c", "y"))
			lacks(t, s, api.OK, "a")
		})
	}
}

// P7.3: of one that has such a file and a right one: its data, whichever is the first.
func TestGetOfUnreadableAndRight(t *testing.T) {
	for what, text := range unreadable() {
		t.Run(what, func(t *testing.T) {
			for _, n := range [][2]int{{0, 1}, {1, 0}, {5, 99999}, {10, 9}, {2, 10}} {
				_, s := laid(t, nameOf("a", n[0]), text, nameOf("a", n[1]), written("a", "x"))
				gets(t, s, "a", "x")
				tells(t, s, 1, "a")
			}
		})
	}
}

// P7.3: of several right ones the data of the one with the least number, not with the least name.
func TestGetTakesTheFirst(t *testing.T) {
	for _, n := range [][2]int{{0, 1}, {2, 10}, {9, 10}, {99, 100}, {3, 20}, {9, 99999}, {20, 100}} {
		for _, other := range []string{"later", ""} {
			_, s := laid(t, nameOf("a", n[1]), written("a", other), nameOf("a", n[0]), written("a", "first"))
			gets(t, s, "a", "first")
			_, s = laid(t, nameOf("a", n[0]), written("a", other), nameOf("a", n[1]), written("a", "first"))
			gets(t, s, "a", other)
		}
	}
}

// P7.3: a key's files are those whose names have its digits: one that has the key under other ones is not found.
func TestGetLooksAtNames(t *testing.T) {
	_, s := laid(t, nameOf("b", 0), written("a", "x"), nameOf("c", 0), "torn")
	lacks(t, s, api.OK, "a", "b")
	lacks(t, s, api.ErrCorrupt, "c")
	tells(t, s, 1, "a")
	puts(t, s, "a", "y")
	puts(t, s, "b", "z")
	gets(t, s, "a", "y", "b", "z")
}

// nobodys are names that look like the key's files, and are not.
func nobodys(key string) []string {
	g := digits(key)
	return []string{
		"s-" + g + "-00", "s-" + g + "-01", "s-" + g + "-000001", "s-" + g + "-100000", "s-" + g + "-123456", "s-" + g + "-012345",
		"s-" + g + "-", "s-" + g, "s-" + g + "--1", "s-" + g + "-+1", "s-" + g + "-1a", "s-" + g + "-1 ", "s-" + g + "- 1", "s-" + g + "-0x1",
		"s-" + g + "-1_0", "s-" + g + "-1-1", "s-" + g + "-1.", "s-" + g + "-1\x00", "s-" + g + "-1\n", "s-" + g + "-\xd9\xa1", "s-" + g + "-e",
		"s-" + g + "-4294967296", "s-" + g + "-18446744073709551616", "s-" + g + "_1", "s-" + g + "1", "s_" + g + "-1", "S-" + g + "-1", "s" + g + "-1",
		"-" + g + "-1", g + "-1", "s--" + g + "-1", " s-" + g + "-1", "ss-" + g + "-1", "s-s-" + g + "-1",
		"s-" + g[:15] + "-1", "s-" + g + "0-1", "s-" + g[:15] + "G-1", "s-" + g[:15] + "g-1", "s-CA978112CA1BBDCA-1", "s-" + g[:15] + "A-1",
		"s-" + g[:15] + "\x00-1", "s-" + g[:15] + " -1", "s-" + g[:14] + "\xc3\xa9-1", "s-g" + g[1:] + "-1", "s-" + g[:7] + "z" + g[8:] + "-1", "s-" + g[:15] + "--1", "s--1", "s--", "s-", "s",
		"shelf.new1", "shelf", "shelf-" + g + "-1"[:2],
	}
}

// P7.3, P7.4: names that are nobody's, whatever stands under them.
func TestNobodysNames(t *testing.T) {
	for _, name := range nobodys("a") {
		if len(name) > 40 || ofShelf.MatchString(name) {
			t.Fatalf("%q is no such name", name)
		}
		for _, text := range []string{written("a", "x"), "torn", ""} {
			d, s := laid(t, name, text)
			noWork(t, d, func() {
				lacks(t, s, api.OK, "a")
				tells(t, s, 0)
				must(t, s.Sweep(nil), s.Sweep(lists("a")))
			})
			puts(t, s, "a", "y")
			gets(t, s, "a", "y")
			must(t, s.Sweep(nil))
			hasFiles(t, d, name, text)
		}
	}
}

// P7.3: "shelf.new", written by others while the shelf is open, is nobody's.
func TestNewIsNobodys(t *testing.T) {
	d, s := begun(t, 1000)
	lay(t, d, "shelf.new", written("a", "x"))
	lacks(t, s, api.OK, "a")
	tells(t, s, 0)
	must(t, s.Sweep(nil))
	hasFiles(t, d, "shelf.new", written("a", "x"))
}
