package pack_test

import (
	"bytes"
	"fmt"
	"slices"
	"testing"

	"incunable/api"
)

// somePacks are packs of all kinds of shapes.
func somePacks(t *testing.T) [][]byte {
	m := mixer(5)
	_, _, small := example()
	l := [][]byte{
		small,
		mustPack(t, 0, nil),
		mustPack(t, 255, nil),
		mustPack(t, 0, []api.Section{section(1, nil)}),
		mustPack(t, 9, []api.Section{section(255, make([]byte, 200))}),
		mustPack(t, 1, []api.Section{section(3, []byte("IP")), section(4, small)}),
	}
	for range 20 {
		l = append(l, mustPack(t, m.below(256), m.sections()))
	}
	return l
}

// P3.3: kinds and sections of packs that are written by the chapter's words.
func TestUnpackByTheWords(t *testing.T) {
	m := mixer(6)
	for kind := range 256 {
		unpacksTo(t, "a pack without sections", bytesOf(kind, nil), kind, nil)
		l := m.sections()
		unpacksTo(t, "a pack", bytesOf(kind, l), kind, l)
	}
	for tag := 1; tag <= 255; tag++ {
		l := []api.Section{section(tag, m.bytes(tag))}
		unpacksTo(t, fmt.Sprint("the tag ", tag), bytesOf(tag, l), tag, l)
	}
	var all []api.Section
	for tag := 1; tag <= 255; tag++ {
		all = append(all, section(tag, m.bytes(tag%3)))
	}
	unpacksTo(t, "255 sections", bytesOf(0, all), 0, all)
	for _, n := range []int{127, 128, 16383, 16384, api.MaxText, api.MaxText + 1, 180000, api.MaxPack - 15} {
		l := []api.Section{section(8, m.bytes(n))}
		unpacksTo(t, fmt.Sprint("a section of ", n), bytesOf(4, l), 4, l)
	}
}

// P3.3, P3.6: each beginning of a pack that is not all of it is told by ErrTrunc.
func TestUnpackOfBeginnings(t *testing.T) {
	for _, b := range somePacks(t) {
		for i := range b {
			unpackRefuses(t, fmt.Sprintf("the first %d of %d bytes", i, len(b)), b[:i], api.ErrTrunc)
		}
	}
	unpackRefuses(t, "nothing", nil, api.ErrTrunc)
	big := mustPack(t, 1, []api.Section{section(1, make([]byte, api.MaxPack-15))})
	unpackRefuses(t, "the greatest but its last byte", big[:len(big)-1], api.ErrTrunc)
}

// P3.3, P3.6: a pack with something behind it is told by ErrSyntax.
func TestUnpackOfMore(t *testing.T) {
	m := mixer(7)
	for _, b := range somePacks(t) {
		for _, tail := range [][]byte{{0}, {0xFF}, {1, 0}, b, b[:4], b[len(b)-4:], m.bytes(9), make([]byte, 300)} {
			unpackRefuses(t, fmt.Sprintf("a pack, and %d bytes", len(tail)), slices.Concat(b, tail), api.ErrSyntax)
		}
		// A right sum of all that makes it no better, as the size is told in the pack.
		unpackRefuses(t, "a pack, and its own sum", withSum(b), api.ErrSyntax)
		unpackRefuses(t, "a pack, a section, and the sum of all", withSum(append(b[:len(b)-4:len(b)-4], 255, 0)), api.ErrSyntax)
	}
	big := mustPack(t, 1, []api.Section{section(1, make([]byte, api.MaxPack-15))})
	unpackRefuses(t, "the greatest, and a byte", append(big, 0), api.ErrSyntax)
}

// P3.3: Size's errors come ahead of all, whatever stands behind.
func TestUnpackTellsSizesErrors(t *testing.T) {
	for _, b := range somePacks(t) {
		for at := range 2 {
			wrong := bytes.Clone(b)
			wrong[at] ^= 0x20
			unpackRefuses(t, "a wrong mark", wrong, api.ErrSyntax)
			unpackRefuses(t, "a wrong mark, cut", wrong[:at+1], api.ErrSyntax)
			unpackRefuses(t, "a wrong mark, the sum made right", withSum(wrong[:len(wrong)-4]), api.ErrSyntax)
		}
		for size := range byte(11) {
			wrong := append([]byte{0x49, 0x50, size, 0, 0, 0}, b[6:]...)
			unpackRefuses(t, fmt.Sprint("a size of ", size), wrong, api.ErrSyntax)
			unpackRefuses(t, fmt.Sprint("a size of that many bytes ", size), withSum(wrong)[:max(6, size)], api.ErrSyntax)
		}
		greater := append(head(uint32(len(b)+1)), b[6:]...)
		unpackRefuses(t, "a size that is one greater", greater, api.ErrTrunc)
		greater = append(head(api.MaxPack), b[6:]...)
		unpackRefuses(t, "the greatest size", greater, api.ErrTrunc)
		for _, size := range []uint32{api.MaxPack + 1, 1<<24 + uint32(len(b)), 1<<31 + uint32(len(b)), 0xFFFFFFFF} {
			greater = append(head(size), b[6:]...)
			unpackRefuses(t, fmt.Sprint("a size that is too great ", size), greater, api.ErrLimit)
		}
	}
	unpackRefuses(t, "more than a pack may have", around(0, make([]byte, api.MaxPack-10)), api.ErrLimit)
}

// P3.3: another sum, by each bit of it; by other bytes; by the sum of less or of more than what stands ahead.
func TestUnpackOfOtherSums(t *testing.T) {
	m := mixer(8)
	for _, b := range somePacks(t) {
		for bit := range 32 {
			wrong := bytes.Clone(b)
			turn(wrong, 8*(len(b)-4)+bit, 1)
			unpackRefuses(t, fmt.Sprintf("bit %d of the sum turned", bit), wrong, api.ErrSum)
		}
		inner := b[: len(b)-4 : len(b)-4]
		sum := bytes.Clone(b[len(b)-4:])
		slices.Reverse(sum)
		if !bytes.Equal(sum, b[len(b)-4:]) {
			unpackRefuses(t, "the sum, the highest byte first", append(inner, sum...), api.ErrSum)
		}
		unpackRefuses(t, "no sum", append(inner, 0, 0, 0, 0), api.ErrSum)
		unpackRefuses(t, "the sum of all but the first byte", append(inner, withSum(inner[1:])[len(inner)-1:]...), api.ErrSum)
		unpackRefuses(t, "the sum of all but the last byte", append(inner, withSum(inner[:len(inner)-1])[len(inner)-1:]...), api.ErrSum)
		unpackRefuses(t, "the sum of the kind and what follows", append(inner, withSum(inner[6:])[len(inner)-6:]...), api.ErrSum)
		for range 20 {
			if four := m.bytes(4); !bytes.Equal(four, b[len(b)-4:]) {
				unpackRefuses(t, "some sum", append(inner, four...), api.ErrSum)
			}
		}
		for i := 6; i < len(inner); i++ {
			wrong := bytes.Clone(b)
			wrong[i] += byte(1 + m.below(255))
			unpackRefuses(t, fmt.Sprintf("byte %d changed", i), wrong, api.ErrSum)
		}
	}
}

// noSections are bytes that are no sections: each of them is wrong at its end, or from its beginning on.
func noSections() map[string][]byte {
	return map[string][]byte{
		"the tag 0":                        {0, 0},
		"the tag 0, with data":             {0, 2, 'a', 'b'},
		"the tag 0, then a right one":      {0, 0, 1, 0},
		"the tag 0 alone":                  {0},
		"noughts":                          {0, 0, 0, 0, 0, 0},
		"a tag alone":                      {1},
		"the last tag alone":               {255},
		"a number that is cut":             {1, 0x80},
		"a number that is cut further on":  {1, 0x80, 0x80, 0x80},
		"a number that is not the least":   {1, 0x80, 0x00},
		"a 1 that is not the least":        {1, 0x81, 0x00, 'a'},
		"a 2 of three bytes":               {1, 0x82, 0x80, 0x00, 'a', 'b'},
		"a number of nine bytes":           {1, 0x80, 0x80, 0x80, 0x80, 0x80, 0x80, 0x80, 0x80, 0x01},
		"a number of eight that goes on":   {1, 0xFF, 0xFF, 0xFF, 0xFF, 0xFF, 0xFF, 0xFF, 0xFF},
		"a number above all":               {1, 0x80, 0x80, 0x80, 0x80, 0x80, 0x80, 0x80, 0x10},
		"the greatest number":              {1, 0xFF, 0xFF, 0xFF, 0xFF, 0xFF, 0xFF, 0xFF, 0x0F, 'a'},
		"data that are not there":          {1, 1},
		"data that are cut":                {1, 3, 'a', 'b'},
		"data that are cut, 300 told":      {1, 0xAC, 0x02, 'a', 'b'},
		"more told than a pack has":        {1, 0x81, 0x80, 0x10, 'a', 'b'},
		"as much told as a pack has":       {1, 0x80, 0x80, 0x10, 'a', 'b'},
		"far more told than a pack has":    {1, 0x80, 0x80, 0x80, 0x80, 0x01, 'a', 'b'},
		"data that reach into the sum":     {1, 4},
		"data that reach to the sum's end": {1, 6, 'a', 'b'},
	}
}

// P3.3: sections that are none, though the sum is right: alone, and behind right ones.
func TestUnpackOfNoSections(t *testing.T) {
	for name, body := range noSections() {
		unpackRefuses(t, name, around(7, body), api.ErrSyntax)
	}
	for name, body := range noSections() {
		// Behind a section its own tag must rise, too: else it would be wrong for that alone.
		later := bytes.Clone(body)
		if later[0] == 1 {
			later[0] = 9
		}
		unpackRefuses(t, name+", behind one", around(7, append([]byte{3, 1, 'x'}, later...)), api.ErrSyntax)
		unpackRefuses(t, name+", behind two", around(7, append([]byte{3, 1, 'x', 8, 0}, later...)), api.ErrSyntax)
	}
}

// P3.3: tags that do not rise, though the sum is right.
func TestUnpackOfTagsThatDoNotRise(t *testing.T) {
	for _, tags := range [][]byte{{1, 1}, {255, 255}, {2, 1}, {255, 1}, {128, 127}, {1, 0}, {255, 0}, {1, 2, 2}, {1, 1, 2}, {1, 3, 2}, {2, 1, 3}, {3, 4, 1}, {1, 2, 3, 4, 4}, {1, 0, 2}} {
		var empty, full []byte
		for _, tag := range tags {
			empty = append(empty, tag, 0)
			full = append(full, tag, 2, 'a', tag)
		}
		unpackRefuses(t, fmt.Sprint("the tags ", tags), around(0, empty), api.ErrSyntax)
		unpackRefuses(t, fmt.Sprint("the tags ", tags, ", with data"), around(0, full), api.ErrSyntax)
	}
}

// P3.3: what can't be sections is told as soon as that is known, however many it seems to be.
func TestUnpackOfManyNoSections(t *testing.T) {
	unpackRefuses(t, "one tag again and again", around(0, bytes.Repeat([]byte{7, 0}, 131000)), api.ErrSyntax)
	unpackRefuses(t, "noughts", around(0, make([]byte, 262000)), api.ErrSyntax)
	unpackRefuses(t, "tags of 255", around(0, bytes.Repeat([]byte{255}, 262000)), api.ErrSyntax)
}

// P3.3: a wrong sum comes ahead of wrong sections, and both behind a wrong length.
func TestUnpackWhichErrorComesFirst(t *testing.T) {
	for name, body := range noSections() {
		b := around(7, body)
		wrong := bytes.Clone(b)
		wrong[len(wrong)-1] ^= 0x80
		unpackRefuses(t, name+", and a wrong sum", wrong, api.ErrSum)
		unpackRefuses(t, name+", and a wrong sum, and a byte", append(wrong, 0), api.ErrSyntax)
		unpackRefuses(t, name+", cut", b[:len(b)-1], api.ErrTrunc)
	}
	_, _, b := example()
	wrong := bytes.Clone(b)
	wrong[12] ^= 1
	unpackRefuses(t, "a wrong sum, cut", wrong[:15], api.ErrTrunc)
	unpackRefuses(t, "a wrong sum, and a byte", append(wrong, 0), api.ErrSyntax)
}
