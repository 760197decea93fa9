package pack_test

import (
	"bytes"
	"fmt"
	"math"
	"slices"
	"testing"

	"incunable/api"
	"incunable/pack"
)

// example is the chapter's own.
func example() (kind int, l []api.Section, b []byte) {
	return 7, []api.Section{section(1, []byte{0x61}), section(4, nil)},
		withSum([]byte{0x49, 0x50, 0x10, 0, 0, 0, 0x07, 0x01, 0x01, 0x61, 0x04, 0x00})
}

// P3.1 to P3.4: the chapter's examples.
func TestExamples(t *testing.T) {
	kind, l, want := example()
	b := mustPack(t, kind, l)
	if !bytes.Equal(b, want) || len(b) != 16 {
		t.Fatalf("Pack: % X, want % X", b, want)
	}
	for _, c := range []struct {
		b    []byte
		size int
		e    api.Errno
	}{{b, 16, api.OK}, {b[:5], 0, api.ErrTrunc}, {[]byte{0x49, 0x51}, 0, api.ErrSyntax}} {
		if n, e := pack.Size(c.b); n != c.size || e != c.e {
			t.Errorf("Size(% X): %d, error %d; want %d, error %d", c.b, n, e, c.size, c.e)
		}
	}
	unpacksTo(t, "the example", b, kind, l)
	unpackRefuses(t, "its first 15 bytes", b[:15], api.ErrTrunc)
	unpackRefuses(t, "it and a byte", append(bytes.Clone(b), 0), api.ErrSyntax)
	other := bytes.Clone(b)
	other[15]++
	unpackRefuses(t, "it with another last byte", other, api.ErrSum)
	packRefuses(t, "a tag twice", 7, []api.Section{section(4, nil), section(4, nil)}, api.ErrArg)
	packRefuses(t, "the kind 256", 256, nil, api.ErrArg)
	if data, is := pack.Find(l[:1], 1); string(data) != "a" || !is {
		t.Errorf("Find(1): %q, %v", data, is)
	}
	if data, is := pack.Find(l[:1], 2); len(data) != 0 || is {
		t.Errorf("Find(2): %q, %v", data, is)
	}
}

// P3.1: the bytes of packs, told one by one.
func TestPackBytes(t *testing.T) {
	long := bytes.Repeat([]byte{0xEE}, 300)
	for _, c := range []struct {
		kind int
		l    []api.Section
		want []byte
	}{
		{0, nil, []byte{0x49, 0x50, 11, 0, 0, 0, 0}},
		{255, []api.Section{}, []byte{0x49, 0x50, 11, 0, 0, 0, 0xFF}},
		{1, []api.Section{section(1, nil)}, []byte{0x49, 0x50, 13, 0, 0, 0, 1, 1, 0}},
		{1, []api.Section{section(255, []byte{})}, []byte{0x49, 0x50, 13, 0, 0, 0, 1, 0xFF, 0}},
		{128, []api.Section{section(1, []byte{0}), section(2, nil), section(255, []byte{0x80, 0xFF})}, []byte{0x49, 0x50, 20, 0, 0, 0, 0x80, 1, 1, 0, 2, 0, 0xFF, 2, 0x80, 0xFF}},
		{9, []api.Section{section(77, long)}, slices.Concat([]byte{0x49, 0x50, 0x3A, 0x01, 0, 0, 9, 77, 0xAC, 0x02}, long)},
	} {
		b, e := pack.Pack(c.kind, c.l)
		if want := withSum(c.want); !bytes.Equal(b, want) || e != api.OK {
			t.Errorf("Pack(%d, %d sections): % X, error %d; want % X", c.kind, len(c.l), b, e, want)
		}
	}
}

// P3.1: held against the chapter's words, for many lists, and data of all lengths around those at which a number has a byte more.
func TestPackByTheWords(t *testing.T) {
	m := mixer(1)
	look := func(kind int, l []api.Section) {
		t.Helper()
		if b, want := mustPack(t, kind, l), bytesOf(kind, l); !bytes.Equal(b, want) {
			t.Errorf("Pack(%d, %d sections): %d bytes, want %d, or others", kind, len(l), len(b), len(want))
		}
	}
	for range 500 {
		look(m.below(256), m.sections())
	}
	for _, n := range []int{0, 1, 126, 127, 128, 129, 16383, 16384, 16385, api.MaxText - 1, api.MaxText, api.MaxText + 1, 180000} {
		look(m.below(256), []api.Section{section(3, m.bytes(n)), section(5, m.bytes(2))})
	}
	var all []api.Section
	for tag := 1; tag <= 255; tag++ {
		all = append(all, section(tag, m.bytes(tag%5)))
	}
	look(0, all)
}

// P3.1: all kinds from 0 to 255, and those beside them.
func TestKinds(t *testing.T) {
	l := []api.Section{section(2, []byte("x"))}
	for kind := range 256 {
		if b := mustPack(t, kind, l); int(b[6]) != kind || !bytes.Equal(b, bytesOf(kind, l)) {
			t.Errorf("Pack(%d, ..): % X", kind, b)
		}
	}
	for _, kind := range []int{-1, -2, -255, -256, 256, 257, 511, 512, 1 << 16, 1 << 32, math.MaxInt, math.MinInt} {
		packRefuses(t, fmt.Sprint("the kind ", kind), kind, l, api.ErrArg)
		packRefuses(t, fmt.Sprint("the kind alone ", kind), kind, nil, api.ErrArg)
	}
}

// P3.1: each tag from 1 to 255, alone, first, between and last; and those beside them.
func TestTags(t *testing.T) {
	for tag := 1; tag <= 255; tag++ {
		lists := [][]api.Section{{section(tag, []byte("y"))}}
		if tag > 1 {
			lists = append(lists, []api.Section{section(1, nil), section(tag, nil)})
		}
		if tag < 255 {
			lists = append(lists, []api.Section{section(tag, nil), section(255, nil)})
		}
		for _, l := range lists {
			if b := mustPack(t, 3, l); !bytes.Equal(b, bytesOf(3, l)) {
				t.Errorf("the tag %d: % X", tag, b)
			}
		}
	}
	for _, tag := range []int{0, -1, -2, -255, -256, 256, 257, 260, 511, 512, 1 << 16, 1<<32 + 1, math.MaxInt, math.MinInt} {
		wrong := section(tag, nil)
		packRefuses(t, fmt.Sprint("the tag ", tag), 3, []api.Section{wrong}, api.ErrArg)
		packRefuses(t, fmt.Sprint("the first tag ", tag), 3, []api.Section{wrong, section(9, nil)}, api.ErrArg)
		packRefuses(t, fmt.Sprint("the last tag ", tag), 3, []api.Section{section(4, nil), section(9, nil), wrong}, api.ErrArg)
		packRefuses(t, fmt.Sprint("a tag between ", tag), 3, []api.Section{section(4, nil), wrong, section(9, nil)}, api.ErrArg)
	}
}

// P3.1: tags that do not rise, wherever that is.
func TestTagsThatDoNotRise(t *testing.T) {
	for _, tags := range [][]int{{1, 1}, {255, 255}, {2, 1}, {255, 1}, {255, 254}, {1, 2, 2}, {1, 1, 2}, {1, 3, 2}, {2, 1, 3}, {3, 4, 1}, {1, 2, 3, 4, 5, 5}, {1, 2, 3, 4, 5, 1}, {5, 5, 5}} {
		var l []api.Section
		for _, tag := range tags {
			l = append(l, section(tag, []byte{byte(tag)}))
		}
		packRefuses(t, fmt.Sprint("the tags ", tags), 0, l, api.ErrArg)
	}
	var all []api.Section
	for tag := 1; tag <= 256; tag++ {
		all = append(all, section(tag, nil))
	}
	packRefuses(t, "256 sections", 0, all, api.ErrArg)
	for i := range 254 {
		l := slices.Clone(all[:255])
		l[i+1].Tag = l[i].Tag
		packRefuses(t, fmt.Sprint("255 sections, two alike at ", i), 0, l, api.ErrArg)
	}
}

// P3.1: a pack of just MaxPack bytes, and one of a byte more, of one section and of several.
func TestPackAtTheLimit(t *testing.T) {
	const room = api.MaxPack - 11
	m := mixer(2)
	for _, c := range []struct {
		name string
		l    []api.Section
		left int // bytes that the last section's data may have
	}{
		{"one section", nil, room - 4},
		{"an empty one ahead", []api.Section{section(1, nil)}, room - 2 - 4},
		{"a short one ahead", []api.Section{section(1, m.bytes(100))}, room - 102 - 4},
		{"half of it ahead", []api.Section{section(1, m.bytes(131000))}, room - 131004 - 4},
		{"nearly all ahead", []api.Section{section(1, m.bytes(room-300-4))}, 300 - 3},
		{"all but the least ahead", []api.Section{section(1, m.bytes(room-2-4))}, 0},
	} {
		last := m.bytes(c.left + 1)
		fits := append(slices.Clone(c.l), section(2, last[:c.left]))
		b := mustPack(t, 200, fits)
		if len(b) != api.MaxPack || !bytes.Equal(b, bytesOf(200, fits)) {
			t.Errorf("%s: %d bytes, want %d, or others", c.name, len(b), api.MaxPack)
		}
		unpacksTo(t, c.name, b, 200, fits)
		packRefuses(t, c.name+", and a byte", 200, append(slices.Clone(c.l), section(2, last)), api.ErrLimit)
		packRefuses(t, c.name+", and a section", 200, append(fits, section(3, nil)), api.ErrLimit)
	}
}

// P3.1: far too many bytes are told as such, and not laid out: one long list may stand in all sections.
func TestPackFarAboveTheLimit(t *testing.T) {
	for _, n := range []int{api.MaxPack - 10, api.MaxPack, api.MaxPack + 1, 1 << 20, 1 << 26} {
		long := make([]byte, n)
		var l []api.Section
		for tag := 1; tag <= 255; tag++ {
			l = append(l, section(tag, long))
		}
		packRefuses(t, fmt.Sprint("255 sections of ", n), 0, l, api.ErrLimit)
		packRefuses(t, fmt.Sprint("one section of ", n), 0, l[:1], api.ErrLimit)
		packRefuses(t, fmt.Sprint("one of a byte, then ", n), 0, append([]api.Section{section(1, []byte{1})}, l[1:]...), api.ErrLimit)
	}
}

// P3.1: what is no kind or no tag comes ahead of what is too long, wherever it stands.
func TestPackErrArgComesFirst(t *testing.T) {
	long := make([]byte, api.MaxPack+1)
	packRefuses(t, "a wrong kind, too long", 256, []api.Section{section(1, long)}, api.ErrArg)
	packRefuses(t, "a wrong kind below, too long", -1, []api.Section{section(1, long)}, api.ErrArg)
	packRefuses(t, "a wrong tag, too long", 1, []api.Section{section(0, long)}, api.ErrArg)
	packRefuses(t, "too long, then a tag twice", 1, []api.Section{section(1, long), section(1, nil)}, api.ErrArg)
	packRefuses(t, "too long, then the tag 256", 1, []api.Section{section(1, long), section(256, nil)}, api.ErrArg)
	packRefuses(t, "too long, then no more than that", 1, []api.Section{section(1, long), section(2, nil)}, api.ErrLimit)
	half := long[:api.MaxPack/2]
	packRefuses(t, "too long in all, then a lesser tag", 1, []api.Section{section(1, half), section(3, half), section(2, nil)}, api.ErrArg)
}
