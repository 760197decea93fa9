package shelf_test

import (
	"slices"
	"testing"

	"incunable/api"
	"incunable/disk"
)

// swept fails unless a sweep of what was laid leaves just these files; as many works are done as files go, and one more.
func swept(t *testing.T, laidFiles, keep, want []string) {
	t.Helper()
	d, s := laid(t, laidFiles...)
	must(t, s.Sweep(lists(keep...)))
	hasFiles(t, d, want...)
	falls(d)
	hasFiles(t, d, want...)
	n := works(t, func() (*disk.Disk, func() api.Errno) {
		d, s := laid(t, laidFiles...)
		return d, func() api.Errno { return s.Sweep(lists(keep...)) }
	})
	gone := (len(laidFiles) - len(want)) / 2
	if gone > 0 {
		gone++
	}
	if n != gone {
		t.Fatalf("%d works, want %d", n, gone)
	}
	// What a sweep has left a second one leaves.
	d, s = laid(t, want...)
	noWork(t, d, func() { must(t, s.Sweep(lists(keep...))) })
}

// three are files of three keys.
func three() []string {
	return []string{nameOf("a", 0), written("a", "x"), nameOf("b", 0), written("b", "y"), nameOf("c", 0), written("c", "z")}
}

// P7.5: nothing to keep, all, some; keys that are not there, and the same key twice.
func TestSweep(t *testing.T) {
	all := three()
	swept(t, all, nil, nil)
	swept(t, all, []string{"a", "b", "c"}, all)
	swept(t, all, []string{"c", "b", "a"}, all)
	swept(t, all, []string{"a"}, all[:2])
	swept(t, all, []string{"b"}, all[2:4])
	swept(t, all, []string{"b", "c"}, all[2:])
	swept(t, all, []string{"b", "b", "b"}, all[2:4])
	swept(t, all, []string{"c", "a", "c", "a"}, append(all[:2:2], all[4:]...))
	swept(t, all, []string{"d", "aa", "A", "a\x00"}, nil)
	swept(t, all, []string{"d", "a", "e"}, all[:2])
	swept(t, nil, []string{"a"}, nil)
	swept(t, nil, nil, nil)
}

// P7.5: what is no key, in what is to be kept, is no fault, and keeps nothing.
func TestSweepOfNoKeys(t *testing.T) {
	all := three()
	tooLong := long(mostKey + 1)
	swept(t, all, []string{""}, nil)
	swept(t, all, []string{"", "a", tooLong, long(mostData * 2)}, all[:2])
	swept(t, []string{nameOf("a", 0), written("", "x"), nameOf("b", 0), written(tooLong, "y"), nameOf("c", 0), "", nameOf("d", 0), written("d", "")},
		[]string{"", tooLong, "d"}, []string{nameOf("d", 0), written("d", "")})
}

// P7.5: files that can't be read go, whatever is to be kept.
func TestSweepOfUnreadable(t *testing.T) {
	for what, text := range unreadable() {
		t.Run(what, func(t *testing.T) {
			all := append(three(), nameOf("a", 1), text, nameOf("b", 77), text, nameOf("x", 0), text)
			swept(t, all, []string{"a", "b", "c", "x"}, three())
			swept(t, []string{nameOf("a", 0), text}, []string{"a"}, nil)
			swept(t, []string{nameOf("a", 0), text, nameOf("a", 1), written("a", "x")}, []string{"a"}, []string{nameOf("a", 1), written("a", "x")})
		})
	}
}

// P7.5: of files of the same key the one with the least name stays: names are texts, 10 stands ahead of 2.
func TestSweepOfTheSameKey(t *testing.T) {
	x, y, z := written("a", "x"), written("a", "y"), written("a", "z")
	swept(t, []string{nameOf("a", 0), x, nameOf("a", 1), y, nameOf("a", 2), z}, []string{"a"}, []string{nameOf("a", 0), x})
	swept(t, []string{nameOf("a", 2), x, nameOf("a", 10), y}, []string{"a"}, []string{nameOf("a", 10), y})
	swept(t, []string{nameOf("a", 99999), x, nameOf("a", 9), y}, []string{"a", "a"}, []string{nameOf("a", 9), y})
	swept(t, []string{nameOf("a", 3), x, nameOf("a", 1000), y, nameOf("a", 20), z}, []string{"a"}, []string{nameOf("a", 1000), y})
	swept(t, []string{nameOf("a", 1), x, nameOf("a", 2), y}, []string{"b"}, nil)
	swept(t, []string{nameOf("a", 0), "torn", nameOf("a", 1), x, nameOf("a", 2), y}, []string{"a"}, []string{nameOf("a", 1), x})
}

// P7.5: whose a file is tells the key in it: one of other digits stays, and another one goes for it.
func TestSweepLooksAtKeys(t *testing.T) {
	x, y := written("a", "x"), written("a", "y")
	low, high := "s-0000000000000000-5", "s-ffffffffffffffff-0"
	swept(t, []string{nameOf("a", 0), x, low, y}, []string{"a"}, []string{low, y})
	swept(t, []string{nameOf("a", 0), x, high, y}, []string{"a"}, []string{nameOf("a", 0), x})
	swept(t, []string{nameOf("a", 0), written("b", "x"), nameOf("b", 0), written("c", "y")}, []string{"a", "c"}, []string{nameOf("b", 0), written("c", "y")})
	swept(t, []string{low, x, high, written("b", "")}, []string{"b", "a"}, []string{low, x, high, written("b", "")})
}

// P7.5: names that are nobody's stay.
func TestSweepOfNobodysNames(t *testing.T) {
	var others []string
	for i, name := range nobodys("a") {
		others = append(others, name, []string{"torn", written("a", "x")}[i%2])
	}
	swept(t, append(three(), others...), nil, others)
	swept(t, append(three(), others...), []string{"a"}, append(three()[:2], others...))
}

// P7.5: files go by rising names: as far as the power stays, and as many of these as are kept.
func TestSweepGoesByNames(t *testing.T) {
	all := []string{
		nameOf("a", 0), written("a", "x"), nameOf("a", 10), written("a", "y"), nameOf("a", 2), "bad", nameOf("b", 0), written("b", "z"),
		nameOf("c", 0), written("c", ""), nameOf("d", 4), "bad", "s-0000000000000000-0", written("e", ""), "s-ffffffffffffffff-0", "",
	}
	keep := []string{"a", "c"}
	stays := []string{nameOf("a", 0), nameOf("c", 0)}
	var going []string
	for name := range slices.Chunk(all, 2) {
		if !slices.Contains(stays, name[0]) {
			going = append(going, name[0])
		}
	}
	slices.Sort(going)
	for n := range len(going) + 1 {
		for kept := range n + 1 {
			d, s := laid(t, all...)
			d.Fail(n, []int{kept})
			answers(t, s.Sweep(lists(keep...)), api.ErrDead)
			isBroken(t, s)
			d.Boot()
			if got, want := d.Names(), len(all)/2-kept; len(got) != want {
				t.Fatalf("%d files, want %d", len(got), want)
			}
			for i, name := range going {
				if slices.Contains(d.Names(), name) != (i >= kept) {
					t.Fatalf("%d works, %d kept: %q", n, kept, d.Names())
				}
			}
			s = opens(t, d)
			must(t, s.Sweep(lists(keep...)))
			if got := d.Names(); !slices.Equal(got, slices.Sorted(slices.Values(stays))) {
				t.Fatalf("%q", got)
			}
		}
	}
}

// P7.5: names are synced only if a file was removed: else others' names, which are not kept, are lost.
func TestSweepSyncsNames(t *testing.T) {
	for _, keep := range [][]string{{"a", "b", "c"}, {"a"}} {
		d, s := laid(t, three()...)
		must(t, d.Append("other", nil), s.Sweep(lists(keep...)))
		falls(d)
		want := append(three(), "other", "")
		if len(keep) == 3 {
			want = three()
		} else {
			want = append(want[:2], want[6:]...)
		}
		hasFiles(t, d, want...)
	}
}

// P7.5: what was swept can be put again, with other data; and the room is free.
func TestSweepThenPut(t *testing.T) {
	d, s := begun(t, 60, "a", "x", "b", "y", "c", "z")
	answers(t, s.Put([]byte("d"), []byte("w")), api.ErrSpace)
	must(t, s.Sweep(lists("b")))
	puts(t, s, "d", "w")
	puts(t, s, "a", "new")
	gets(t, s, "a", "new", "b", "y", "d", "w")
	tells(t, s, 0, "a", "b", "d")
	if left := 60 - 17*3 - 2; d.Left() != left {
		t.Fatalf("Left: %d, want %d", d.Left(), left)
	}
}

// P7.5: many keys to keep, long ones, of which few are there.
func TestSweepOfManyKeys(t *testing.T) {
	text := []byte(long(mostKey + 5000))
	key := string(text[2500 : 2500+mostKey])
	d, s := begun(t, 1<<20, "a", "x", key, "y", "b", "z")
	var keep [][]byte
	for i := range 5000 {
		text[i] = byte(i * 7)
		keep = append(keep, text[i:i+mostKey])
	}
	must(t, s.Sweep(keep))
	tells(t, s, 0)
	hasFiles(t, d)
	puts(t, s, string(keep[4999]), "w")
	puts(t, s, "a", "x")
	must(t, s.Sweep(keep))
	tells(t, s, 0, string(keep[4999]))
}
