package shelf_test

import (
	"slices"
	"testing"

	"incunable/api"
	"incunable/disk"
)

// P7.10: files of one key have the names that another one's would have: both keys are put, and got, and swept, whichever comes first.
func TestUnlikeKeys(t *testing.T) {
	for _, taken := range []int{1, 2, 3, 12} {
		d := newDisk(t, 1<<20)
		var others, keys []string
		for n := range taken {
			key := "other " + string(rune('a'+n))
			keys = append(keys, key)
			others = append(others, nameOf("a", n), written(key, "its data"))
		}
		lay(t, d, others...)
		s := opens(t, d)
		lacks(t, s, api.OK, "a")
		lacks(t, s, api.OK, keys...)
		puts(t, s, "a", "x")
		gets(t, s, "a", "x")
		hasFiles(t, d, append(others, nameOf("a", taken), written("a", "x"))...)
		tells(t, s, 0, append([]string{"a"}, keys...)...)
		puts(t, s, "a", "y")
		gets(t, s, "a", "x")
		must(t, s.Sweep(lists(append(keys, "a")...)))
		hasFiles(t, d, append(others, nameOf("a", taken), written("a", "x"))...)
		must(t, s.Sweep(lists("a")))
		hasFiles(t, d, nameOf("a", taken), written("a", "x"))
		gets(t, s, "a", "x")
		must(t, s.Sweep(nil))
		puts(t, s, "a", "z")
		hasFiles(t, d, nameOf("a", 0), written("a", "z"))
	}
}

// P7.10: all orders of files of two keys, of one that can't be read, and of free names, under the digits of one of them: Get answers the key's own, or what the chapter says of none.
func TestUnlikeKeysInEachOrder(t *testing.T) {
	kinds := []string{"", written("a", "x"), written("b", "y"), "torn"}
	for code := range 4 * 4 * 4 * 4 {
		var l, names []string
		for n, c := 0, code; n < 4; n, c = n+1, c/4 {
			if kinds[c%4] != "" {
				l = append(l, nameOf("a", n), kinds[c%4])
			}
			names = append(names, kinds[c%4])
		}
		d, s := laid(t, append(l, nameOf("c", 0), written("c", "z"))...)
		isThere := slices.Contains(names, kinds[1])
		switch {
		case isThere:
			gets(t, s, "a", "x")
		case slices.Contains(names, "torn"):
			lacks(t, s, api.ErrCorrupt, "a")
		default:
			lacks(t, s, api.OK, "a")
		}
		lacks(t, s, api.OK, "b")
		puts(t, s, "a", "x")
		puts(t, s, "b", "own")
		gets(t, s, "a", "x", "b", "own", "c", "z")
		want := append(l, nameOf("c", 0), written("c", "z"), nameOf("b", 0), written("b", "own"))
		if !isThere {
			n := slices.Index(append(names, ""), "")
			want = append(want, nameOf("a", n), kinds[1])
		}
		hasFiles(t, d, want...)
	}
}

// P7.10: what is put and swept of one key leaves the others as they are.
func TestKeysApart(t *testing.T) {
	d, s := begun(t, 1<<20)
	must(t, d.Append(nameOf("b", 0), []byte(written("a", "of a"))), d.Sync(nameOf("b", 0)), d.SyncNames())
	puts(t, s, "b", "of b")
	puts(t, s, "c", "of c")
	gets(t, s, "b", "of b", "c", "of c")
	must(t, s.Sweep(lists("b", "c")))
	gets(t, s, "b", "of b", "c", "of c")
	hasFiles(t, d, nameOf("b", 1), written("b", "of b"), nameOf("c", 0), written("c", "of c"))
	lay(t, d, nameOf("b", 0), written("c", "other"))
	gets(t, s, "b", "of b", "c", "of c")
	must(t, d.Remove(nameOf("b", 0)), d.SyncNames(), s.Sweep(lists("b")))
	gets(t, s, "b", "of b")
	lacks(t, s, api.OK, "c")
}

// P7.10: also when the power goes while one of them is written.
func TestUnlikeKeysAndFalls(t *testing.T) {
	for n := range 5 {
		for keep := range 3 {
			begin := func() *disk.Disk {
				d := newDisk(t, 1000)
				lay(t, d, nameOf("a", 0), written("b", "y"), nameOf("a", 2), written("c", "z"))
				return d
			}
			d := begin()
			s := opens(t, d)
			d.Fail(n, []int{keep, 9, 9, 9})
			s.Put([]byte("a"), []byte("x"))
			d.Boot()
			s = opens(t, d)
			puts(t, s, "a", "x")
			gets(t, s, "a", "x")
			hasFiles(t, d, nameOf("a", 0), written("b", "y"), nameOf("a", 1), written("a", "x"), nameOf("a", 2), written("c", "z"))
		}
	}
}
