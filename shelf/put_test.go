package shelf_test

import (
	"bytes"
	"slices"
	"testing"

	"incunable/api"
	"incunable/disk"
	"incunable/shelf"
)

// P7.2, P7.3: the chapter's examples.
func TestExamples(t *testing.T) {
	d, s := begun(t, 1000)
	puts(t, s, "a", "x")
	puts(t, s, "a", "y")
	gets(t, s, "a", "x")
	lacks(t, s, api.OK, "b")
	must(t, s.Sweep(lists("b")))
	lacks(t, s, api.OK, "a")
	tells(t, s, 0)
	hasFiles(t, d)
}

// P7.2: a file is what the chapter says, byte by byte, and it is kept, its name with it.
func TestPutWrites(t *testing.T) {
	d, _ := begun(t, 1000, "a", "xy")
	want := []string{"s-ca978112ca1bbdca-0", "IP\x12\x00\x00\x00\x07\x01\x01a\x02\x02xy\x12\x9c\xf3\x73"}
	if want[1] != written("a", "xy") {
		t.Fatalf("%q", written("a", "xy"))
	}
	hasFiles(t, d, want...)
	if d.Left() != 1000-18 {
		t.Fatalf("Left: %d", d.Left())
	}
	falls(d)
	hasFiles(t, d, want...)
}

// P7.2: keys and data of all lengths, the edges with them.
func TestPutOfEachLength(t *testing.T) {
	d, s := begun(t, 1<<24)
	var want []string
	for _, size := range []int{1, 2, 127, 128, 129, 1000, 16383, 16384, mostKey - 1, mostKey} {
		for _, length := range []int{0, 1, 127, 128, 16384, mostData - 1, mostData} {
			if size > 1000 && length > 1000 && size+length < mostKey+mostData {
				continue
			}
			key, data := string(rune('A'+len(want)/2))+long(size-1), long(length)
			puts(t, s, key, data)
			gets(t, s, key, data)
			want = append(want, nameOf(key, 0), written(key, data))
		}
	}
	hasFiles(t, d, want...)
	falls(d)
	hasFiles(t, d, want...)
}

// P7.2: bytes of all kinds, in keys and in data, also such as look like a pack.
func TestPutOfEachByte(t *testing.T) {
	m := mixer(2)
	_, s := begun(t, 1<<20)
	var want []string
	for b := range 256 {
		want = append(want, string([]byte{byte(b)}), string([]byte{byte(255 - b), byte(b)}))
	}
	for range 100 {
		want = append(want, m.text(2+m.below(40)), m.text(m.below(40)))
	}
	want = append(want, written("a", "b"), written("c", "d"), "s-ca978112ca1bbdca-0", "shelf.new")
	for pair := range slices.Chunk(want, 2) {
		puts(t, s, pair[0], pair[1])
	}
	gets(t, s, want...)
}

// refusesPut fails unless Put answers that error, and does nothing.
func refusesPut(t *testing.T, d *disk.Disk, s *shelf.Shelf, key, data []byte, want api.Errno) {
	t.Helper()
	noWork(t, d, func() { answers(t, s.Put(key, data), want) })
	if s.Broken() {
		t.Fatal("the shelf is broken")
	}
}

// P7.2: what is no key, and too many data; the key is looked at first. Also if there is no room, or the key is there.
func TestPutOfWrongOnes(t *testing.T) {
	for _, room := range []int{20, 1 << 20} {
		d, s := begun(t, room, "a", "x")
		tooLong, tooMany := []byte(long(mostKey+1)), []byte(long(mostData+1))
		for _, data := range [][]byte{nil, {1}, tooMany} {
			for _, key := range [][]byte{nil, {}, tooLong, tooMany} {
				refusesPut(t, d, s, key, data, api.ErrArg)
			}
		}
		for _, key := range []string{"a", "b", long(mostKey)} {
			refusesPut(t, d, s, []byte(key), tooMany, api.ErrLimit)
			refusesPut(t, d, s, []byte(key), make([]byte, api.MaxPack+1), api.ErrLimit)
		}
		gets(t, s, "a", "x")
		tells(t, s, 0, "a")
	}
}

// P7.2: of a key that is there nothing is done, whatever the data; also if there were no room.
func TestPutOfAKeyThatIsThere(t *testing.T) {
	d, s := begun(t, 17, "a", "x")
	for _, data := range []string{"", "x", "y", long(100), long(mostData)} {
		refusesPut(t, d, s, []byte("a"), []byte(data), api.OK)
	}
	gets(t, s, "a", "x")
	must(t, s.Sweep(nil))
	puts(t, s, "a", "y")
	gets(t, s, "a", "y")
}

// P7.2: it is there in whichever of the key's files, if that can be read; names of other digits don't count.
func TestPutOfAKeyThatIsThereLater(t *testing.T) {
	for _, n := range []int{1, 7, 10, 99999} {
		d, s := laid(t, nameOf("a", 0), "torn", nameOf("a", n), written("a", "x"), nameOf("b", 1), written("c", "z"))
		refusesPut(t, d, s, []byte("a"), []byte("y"), api.OK)
		gets(t, s, "a", "x")
		puts(t, s, "c", "new")
		gets(t, s, "c", "new")
	}
}

// unreadable are files that can't be read, each for another reason.
func unreadable() map[string]string {
	whole := written("a", "x")
	cut := whole[:len(whole)-1]
	turned := []byte(whole)
	turned[9] ^= 4
	return map[string]string{
		"no bytes":               "",
		"one byte":               "I",
		"a cut one":              cut,
		"one with more":          whole + "\x00",
		"a turned one":           string(turned),
		"another kind":           packed(6, section(1, "a"), section(2, "x")),
		"the kind 8":             packed(8, section(1, "a"), section(2, "x")),
		"the kind 0":             packed(0, section(1, "a"), section(2, "x")),
		"no sections":            packed(7),
		"a key alone":            packed(7, section(1, "a")),
		"data alone":             packed(7, section(2, "x")),
		"three sections":         packed(7, section(1, "a"), section(2, "x"), section(3, "")),
		"other ones":             packed(7, section(2, "a"), section(3, "x")),
		"another first one":      packed(7, section(3, "a"), section(4, "x")),
		"another second one":     packed(7, section(1, "a"), section(3, "x")),
		"sections that fall":     packed(7, section(2, "x"), section(1, "a")),
		"the same section twice": packed(7, section(1, "a"), section(1, "x")),
		"a key of no bytes":      written("", "x"),
		"a key that is too long": written(long(mostKey+1), "x"),
		"too many data":          written("a", long(mostData+1)),
		"a longer number":        packed(7, "\x01\x81\x00a", section(2, "x")),
		"many bytes":             long(api.MaxPack + 100),
	}
}

// P7.2, P7.3: a file of the key that can't be read keeps its name; the key's data get the next one.
func TestPutBesideUnreadable(t *testing.T) {
	for what, text := range unreadable() {
		t.Run(what, func(t *testing.T) {
			d, s := laid(t, nameOf("a", 0), text)
			lacks(t, s, api.ErrCorrupt, "a")
			puts(t, s, "a", "new")
			gets(t, s, "a", "new")
			hasFiles(t, d, nameOf("a", 0), text, nameOf("a", 1), written("a", "new"))
			tells(t, s, 1, "a")
		})
	}
}

// P7.2: the name has the least number that none of the key's files has.
func TestPutTakesTheLeastNumber(t *testing.T) {
	for _, c := range []struct {
		taken []int
		want  int
	}{
		{nil, 0}, {[]int{0}, 1}, {[]int{1}, 0}, {[]int{1, 2, 3}, 0}, {[]int{0, 2}, 1}, {[]int{0, 1, 3, 10}, 2},
		{[]int{0, 1, 2, 3, 4, 5, 6, 7, 8, 9, 11}, 10}, {[]int{99999}, 0}, {[]int{0, 99999}, 1}, {[]int{10, 100, 1000, 10000}, 0},
	} {
		var files []string
		for i, n := range c.taken {
			text := "torn"
			if i%2 == 1 {
				text = written("another", "x")
			}
			files = append(files, nameOf("a", n), text, nameOf("b", i), "torn")
		}
		// Names that are nobody's take no number.
		files = append(files, "s-"+digits("a")+"-00", "", "s-"+digits("a")+"-01", "", "s-"+digits("a")+"-", "", "s-"+digits("a"), "", "s-"+digits("a")+"-100000", "")
		d, s := laid(t, files...)
		puts(t, s, "a", "new")
		hasFiles(t, d, append(files, nameOf("a", c.want), written("a", "new"))...)
		gets(t, s, "a", "new")
	}
}

// filled is a disk on which the key "a" has a file of each number but one.
func filled(t *testing.T, text func(n int) string, but int) (*disk.Disk, *shelf.Shelf) {
	t.Helper()
	d := newDisk(t, 1<<24)
	for n := range 100000 {
		if n != but {
			must(t, d.Append(nameOf("a", n), []byte(text(n))))
		}
	}
	must(t, d.SyncNames())
	return d, opens(t, d)
}

// P7.2: when all names are taken: ErrLimit, ahead of all works, and of ErrSpace; a key that is there is there still, and others' names are free.
func TestPutWithAllNamesTaken(t *testing.T) {
	d, s := filled(t, func(int) string { return "" }, -1)
	refusesPut(t, d, s, []byte("a"), nil, api.ErrLimit)
	refusesPut(t, d, s, []byte("a"), []byte(long(mostData)), api.ErrLimit)
	must(t, d.Append("much", make([]byte, 1<<24-50)))
	refusesPut(t, d, s, []byte("a"), []byte(long(50)), api.ErrLimit)
	answers(t, s.Put([]byte("b"), []byte(long(50))), api.ErrSpace)
	puts(t, s, "b", "y")
	lacks(t, s, api.ErrCorrupt, "a")
	must(t, d.Append(nameOf("a", 99999), []byte(written("a", "x"))))
	refusesPut(t, d, s, []byte("a"), []byte("z"), api.OK)
	gets(t, s, "a", "x", "b", "y")
}

// P7.2: the last name that is free is taken, be it between others or the greatest.
func TestPutTakesTheLastName(t *testing.T) {
	for _, n := range []int{99999, 54321} {
		d, s := filled(t, func(n int) string {
			if n == 99998 {
				return written("another", "z")
			}
			return ""
		}, n)
		puts(t, s, "a", "x")
		gets(t, s, "a", "x")
		b, e := d.Read(nameOf("a", n))
		must(t, e)
		if string(b) != written("a", "x") {
			t.Fatalf("%q", b)
		}
	}
}

// P7.2: with too little room, by one byte: ErrSpace, nothing has changed, and the shelf is not broken; with just enough all is well.
func TestPutWithoutRoom(t *testing.T) {
	for _, data := range []string{"", "y", long(500)} {
		size := len(written("b", data))
		for _, left := range []int{0, 1, size / 2, size - 1, size, size + 1} {
			d, s := begun(t, 17+left, "a", "x")
			if left < size {
				refusesPut(t, d, s, []byte("b"), []byte(data), api.ErrSpace)
				hasFiles(t, d, nameOf("a", 0), written("a", "x"))
				falls(d)
				hasFiles(t, d, nameOf("a", 0), written("a", "x"))
				continue
			}
			puts(t, s, "b", data)
			hasFiles(t, d, nameOf("a", 0), written("a", "x"), nameOf("b", 0), written("b", data))
		}
	}
}

// P7.2: when there is room again, what was refused can be put.
func TestPutGoesOnBehindErrSpace(t *testing.T) {
	d, s := begun(t, 100)
	must(t, d.Append("much", make([]byte, 90)))
	answers(t, s.Put([]byte("a"), []byte("x")), api.ErrSpace)
	lacks(t, s, api.OK, "a")
	must(t, d.Cut("much", 0))
	puts(t, s, "a", "x")
	gets(t, s, "a", "x")
}

// P7.2: the works of Put: one Append, Sync, Rename, SyncNames; none is done twice.
func TestPutWorks(t *testing.T) {
	for _, data := range []string{"", "x", long(mostData)} {
		n := works(t, func() (*disk.Disk, func() api.Errno) {
			d, s := begun(t, 1<<20, "b", "y")
			return d, func() api.Errno { return s.Put([]byte("a"), []byte(data)) }
		})
		if n != 4 {
			t.Fatalf("%d works, want 4", n)
		}
	}
}

// P7.2: what stands in "shelf.new" when the power goes at each work, and what is synced of it.
func TestPutIsWrittenToNew(t *testing.T) {
	whole := written("a", "xyz")
	for _, c := range []struct {
		fail int
		keep []int
		want []string
	}{
		{0, []int{5, 99}, nil},
		{1, []int{0, 99}, nil},
		{1, []int{1, 0}, []string{"shelf.new", ""}},
		{1, []int{1, 7}, []string{"shelf.new", whole[:7]}},
		{1, []int{1, len(whole)}, []string{"shelf.new", whole}},
		{2, []int{0, 0}, nil},
		{2, []int{1, 0}, []string{"shelf.new", whole}},
		{3, []int{0, 0}, nil},
		{3, []int{1, 0}, []string{"shelf.new", whole}},
		{3, []int{2, 0}, []string{nameOf("a", 0), whole}},
	} {
		d, s := begun(t, 1000)
		d.Fail(c.fail, c.keep)
		answers(t, s.Put([]byte("a"), []byte("xyz")), api.ErrDead)
		if !d.Dead() {
			t.Fatal("the power is there")
		}
		d.Boot()
		hasFiles(t, d, c.want...)
		s = opens(t, d)
		if c.want != nil && c.want[0] != "shelf.new" {
			gets(t, s, "a", "xyz")
			continue
		}
		hasFiles(t, d)
		puts(t, s, "a", "xyz")
		hasFiles(t, d, nameOf("a", 0), whole)
	}
}

// P7.2: names of others that are not kept yet are kept with Put's; what is not synced of other files is not.
func TestPutSyncsNames(t *testing.T) {
	d, s := begun(t, 1000)
	must(t, d.Append("other", []byte("not synced")))
	puts(t, s, "a", "x")
	falls(d)
	hasFiles(t, d, nameOf("a", 0), written("a", "x"), "other", "")
}

// P7.2: keys that begin alike, or are each other's beginning, are unlike.
func TestPutOfLikeKeys(t *testing.T) {
	_, s := begun(t, 1<<20)
	var want []string
	for n := range 200 {
		want = append(want, long(n+1), string(bytes.Repeat([]byte{byte(n)}, n%7)))
	}
	for pair := range slices.Chunk(want, 2) {
		puts(t, s, pair[0], pair[1])
	}
	gets(t, s, want...)
	lacks(t, s, api.OK, long(201), "b", "al\x00", "A")
}
