package pack_test

import (
	"bytes"
	"math"
	"testing"

	"incunable/api"
	"incunable/pack"
)

func findIs(t *testing.T, l []api.Section, tag int, want []byte, is bool) {
	t.Helper()
	if data, ok := pack.Find(l, tag); !bytes.Equal(data, want) || ok != is {
		t.Errorf("Find of the tag %d in %d sections: %q, %v; want %q, %v", tag, len(l), data, ok, want, is)
	}
}

// P3.4: each tag of a list, and all others.
func TestFindEachTag(t *testing.T) {
	m := mixer(9)
	for range 40 {
		l := m.sections()
		var by [257]*api.Section
		for i := range l {
			by[l[i].Tag] = &l[i]
		}
		for tag, s := range by {
			if s != nil {
				findIs(t, l, tag, s.Data, true)
			} else {
				findIs(t, l, tag, nil, false)
			}
		}
		for _, tag := range []int{-1, -255, 256, 257, 256 + l[0].Tag, l[0].Tag - 256, 1<<32 + l[0].Tag, math.MaxInt, math.MinInt} {
			findIs(t, l, tag, nil, false)
		}
	}
}

// P3.4: there is a section without data, and there is none: these are two things.
func TestFindSectionsWithoutData(t *testing.T) {
	l := []api.Section{section(1, nil), section(2, []byte{}), section(3, []byte{0})}
	findIs(t, l, 1, nil, true)
	findIs(t, l, 2, nil, true)
	findIs(t, l, 3, []byte{0}, true)
	findIs(t, l, 4, nil, false)
	findIs(t, l, 0, nil, false)
	findIs(t, nil, 0, nil, false)
	findIs(t, nil, 1, nil, false)
	findIs(t, []api.Section{}, 1, nil, false)
}

// P3.4: of sections with one tag the first one counts, though it has no data, wherever it stands.
func TestFindTheFirst(t *testing.T) {
	a, b, none := []byte("a"), []byte("bb"), []byte(nil)
	findIs(t, []api.Section{section(5, a), section(5, b)}, 5, a, true)
	findIs(t, []api.Section{section(5, b), section(5, a)}, 5, b, true)
	findIs(t, []api.Section{section(5, none), section(5, b)}, 5, none, true)
	findIs(t, []api.Section{section(9, a), section(5, b), section(5, a), section(9, b)}, 5, b, true)
	findIs(t, []api.Section{section(9, a), section(5, b), section(5, a), section(9, b)}, 9, a, true)
	findIs(t, []api.Section{section(9, a), section(2, b), section(5, none)}, 2, b, true)
	findIs(t, []api.Section{section(9, a), section(2, b), section(5, none)}, 5, none, true)
}
