package shelf_test

import (
	"fmt"
	"slices"
	"strings"
	"testing"

	"incunable/api"
	"incunable/disk"
	"incunable/shelf"
)

// named fails unless Name answers that.
func named(t *testing.T, key []byte, n int, want string, e api.Errno) {
	t.Helper()
	if got, f := shelf.Name(key, n); got != want || f != e {
		t.Fatalf("Name(%.20q, %d) = %q, error %d, want %q, error %d", key, n, got, f, want, e)
	}
}

// P7.1: the chapter's examples of Name.
func TestNameExamples(t *testing.T) {
	named(t, []byte("a"), 0, "s-ca978112ca1bbdca-0", api.OK)
	named(t, nil, 0, "", api.ErrArg)
	named(t, []byte("a"), -1, "", api.ErrRange)
}

// P7.1: names of keys of all lengths, and of all kinds of bytes.
func TestNameOfKeys(t *testing.T) {
	for _, key := range []string{"a", "\x00", "\xff\xfe", "abc", long(55), long(64), long(1000), long(mostKey - 1), long(mostKey)} {
		named(t, []byte(key), 7, nameOf(key, 7), api.OK)
	}
	named(t, []byte("abc"), 12345, "s-ba7816bf8f01cfea-12345", api.OK)
	m := mixer(1)
	for range 300 {
		key, n := m.text(1+m.below(200)), m.below(100000)
		named(t, []byte(key), n, nameOf(key, n), api.OK)
	}
}

// P7.1: numbers at the edges.
func TestNameOfNumbers(t *testing.T) {
	for _, n := range []int{0, 1, 9, 10, 99, 100, 9999, 10000, 99998, 99999} {
		named(t, []byte("a"), n, fmt.Sprint("s-ca978112ca1bbdca-", n), api.OK)
	}
	for _, n := range []int{-1, -2, -99999, -1 << 63, 100000, 100001, 1000000, 1<<63 - 1} {
		named(t, []byte("a"), n, "", api.ErrRange)
	}
}

// P7.1: what is no key is looked for ahead of the number.
func TestNameOfNoKey(t *testing.T) {
	for _, key := range [][]byte{nil, {}, []byte(long(mostKey + 1)), []byte(long(mostKey * 3))} {
		for _, n := range []int{-1, 0, 5, 99999, 100000} {
			named(t, key, n, "", api.ErrArg)
		}
	}
}

// refuses fails unless Open answers that error, and no shelf.
func refuses(t *testing.T, d *disk.Disk, want api.Errno) {
	t.Helper()
	if s, e := shelf.Open(d); s != nil || e != want {
		t.Fatalf("Open: a shelf %v, error %d, want %d", s != nil, e, want)
	}
}

// P7.1: disks that are none, or dead.
func TestOpenOfNone(t *testing.T) {
	refuses(t, nil, api.ErrNil)
	refuses(t, &disk.Disk{}, api.ErrNil)
	for _, text := range []string{"", "some bytes"} {
		d := newDisk(t, 100)
		lay(t, d, "shelf.new", text)
		d.Crash(nil)
		refuses(t, d, api.ErrDead)
		refuses(t, d, api.ErrDead)
		d.Boot()
		hasFiles(t, d, "shelf.new", text)
		tells(t, opens(t, d), 0)
		hasFiles(t, d)
	}
}

// P7.1: an empty disk, and one with files, but without "shelf.new": Open does nothing to them; the names are not synced.
func TestOpenWithoutNew(t *testing.T) {
	d := newDisk(t, 1000)
	noWork(t, d, func() { tells(t, opens(t, d), 0) })
	lay(t, d, nameOf("a", 0), written("a", "x"), "journal", "some", "shelf.ne", "", "shelf.new2", "x", "Shelf.new", "")
	must(t, d.Append("late", []byte("not kept")))
	noWork(t, d, func() { tells(t, opens(t, d), 0, "a") })
	falls(d)
	hasFiles(t, d, nameOf("a", 0), written("a", "x"), "journal", "some", "shelf.ne", "", "shelf.new2", "x", "Shelf.new", "")
}

// P7.1: "shelf.new" is removed, whatever it has, and names are synced: it does not come back.
func TestOpenWithNew(t *testing.T) {
	for _, text := range []string{"", "torn", written("a", "x"), written("b", "y")} {
		d := newDisk(t, 1000)
		lay(t, d, nameOf("a", 0), written("a", "x"), "shelf.new", text, "other", "bytes")
		tells(t, opens(t, d), 0, "a")
		want := []string{nameOf("a", 0), written("a", "x"), "other", "bytes"}
		hasFiles(t, d, want...)
		falls(d)
		hasFiles(t, d, want...)
		noWork(t, d, func() { opens(t, d) })
		if left := 1000 - len(written("a", "x")) - 5; d.Left() != left {
			t.Fatalf("Left: %d, want %d", d.Left(), left)
		}
	}
}

// P7.1: one that is not kept is removed, too; names that are not kept are, then.
func TestOpenWithNewThatIsNotKept(t *testing.T) {
	d := newDisk(t, 1000)
	must(t, d.Append("shelf.new", []byte("x")), d.Append("other", nil))
	opens(t, d)
	falls(d)
	hasFiles(t, d, "other", "")
}

// P7.1: the works of Open, and its error when the power goes at one: the name is there again, or not, and the next Open goes on.
func TestOpenWorks(t *testing.T) {
	begin := func() (*disk.Disk, func() api.Errno) {
		d := newDisk(t, 1000)
		lay(t, d, "shelf.new", "x", "other", "y")
		return d, func() api.Errno {
			s, e := shelf.Open(d)
			if (s == nil) != (e != api.OK) {
				t.Fatalf("a shelf %v, error %d", s != nil, e)
			}
			return e
		}
	}
	if n := works(t, begin); n != 2 {
		t.Fatalf("%d works, want 2", n)
	}
	for n := range 2 {
		for keep := range 3 {
			d, open := begin()
			d.Fail(n, []int{keep})
			answers(t, open(), api.ErrDead)
			d.Boot()
			if is := slices.Contains(d.Names(), "shelf.new"); is != (n == 0 || keep%2 == 0) {
				t.Fatalf("%d, %d: %v", n, keep, is)
			}
			must(t, open())
			hasFiles(t, d, "other", "y")
		}
	}
}

// P7.1: two shelves of one disk are one: what one puts the other gets.
func TestOpenTwice(t *testing.T) {
	d, s := begun(t, 1000, "a", "x")
	other := opens(t, d)
	puts(t, other, "b", "y")
	gets(t, s, "a", "x", "b", "y")
	must(t, s.Sweep(lists("b")))
	tells(t, other, 0, "b")
}

// P7.1: what else stands on the disk is nobody's, and stays.
func TestOthersFilesStay(t *testing.T) {
	others := []string{"journal", written("a", "x"), "s-", "", "s", "x", "t-ca978112ca1bbdca-0", written("a", "z")}
	d, s := laid(t, others...)
	tells(t, s, 0)
	lacks(t, s, api.OK, "a")
	puts(t, s, "a", "mine")
	must(t, s.Sweep(nil))
	hasFiles(t, d, others...)
	if strings.Contains(strings.Join(d.Names(), " "), "shelf") {
		t.Fatal(d.Names())
	}
}
