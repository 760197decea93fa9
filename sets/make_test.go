package sets_test

import (
	"slices"
	"testing"

	"incunable/api"
	"incunable/sets"
)

// P8.1: the chapter's examples, by the four numbers.
func TestMadeAsInTheExamples(t *testing.T) {
	for _, c := range []struct {
		what      string
		got, want api.Set
	}{
		{"Of(1, 64, 1)", sets.Of(1, 64, 1), api.Set{2, 1, 0, 0}},
		{"Span(62, 65)", sets.Span(62, 65), api.Set{3 << 62, 3, 0, 0}},
		{"Span(2, 1)", sets.Span(2, 1), api.Set{}},
		{"Union of Of(1, 2) and Of(2, 3)", sets.Union(sets.Of(1, 2), sets.Of(2, 3)), sets.Of(1, 2, 3)},
		{"Union of Of(1, 2) and Of(2, 3), by numbers", sets.Union(sets.Of(1, 2), sets.Of(2, 3)), api.Set{14}},
		{"Both of Of(1, 2) and Of(2, 3)", sets.Both(sets.Of(1, 2), sets.Of(2, 3)), sets.Of(2)},
		{"Both of Of(1, 2) and Of(2, 3), by numbers", sets.Both(sets.Of(1, 2), sets.Of(2, 3)), api.Set{4}},
		{"Less of Of(1, 2) and Of(2, 3)", sets.Less(sets.Of(1, 2), sets.Of(2, 3)), sets.Of(1)},
		{"Less of Of(1, 2) and Of(2, 3), by numbers", sets.Less(sets.Of(1, 2), sets.Of(2, 3)), api.Set{2}},
	} {
		if c.got != c.want {
			t.Errorf("%s = %x, want %x", c.what, c.got, c.want)
		}
	}
}

// P8.1: Of no bytes, however they are none.
func TestOfNoBytes(t *testing.T) {
	for _, s := range []api.Set{sets.Of(), sets.Of(nil...), sets.Of([]byte{}...), sets.Of(make([]byte, 0, 9)...)} {
		hasJust(t, s, members{})
	}
}

// P8.1: Of each byte alone, and of the same one several times.
func TestOfOneByte(t *testing.T) {
	for c := range 256 {
		b := byte(c)
		want := those(func(other int) bool { return other == c })
		hasJust(t, sets.Of(b), want)
		hasJust(t, sets.Of(b, b), want)
		hasJust(t, sets.Of(b, b, b, b, b), want)
	}
}

// P8.1: Of each two bytes, in both orders, and one of them twice.
func TestOfTwoBytes(t *testing.T) {
	for x := range 256 {
		for y := range x {
			a, b := byte(x), byte(y)
			want := among([]byte{a, b}).set()
			if sets.Of(a, b) != want || sets.Of(b, a) != want || sets.Of(a, b, a) != want {
				t.Fatalf("Of(%d, %d) = %x, want %x", a, b, sets.Of(a, b), want)
			}
		}
	}
}

// P8.1: both ends of each of the four numbers, where they stand.
func TestOfEnds(t *testing.T) {
	const lowest, highest = 1, 1 << 63
	for i := range 4 {
		var low, high, both api.Set
		low[i], high[i], both[i] = lowest, highest, lowest+highest
		a, b := byte(64*i), byte(64*i+63)
		if sets.Of(a) != low || sets.Of(b) != high || sets.Of(b, a) != both {
			t.Errorf("Of %d, of %d, of both: %x, %x, %x", a, b, sets.Of(a), sets.Of(b), sets.Of(b, a))
		}
	}
	hasJust(t, sets.Of(0, 63, 64, 127, 128, 191, 192, 255), among(ends()))
	hasJust(t, sets.Of(255, 192, 191, 128, 127, 64, 63, 0), among(ends()))
}

// P8.1: Of all bytes, rising, falling, mixed, and each of them often.
func TestOfAllBytes(t *testing.T) {
	rising := everyByte()
	falling := slices.Clone(rising)
	slices.Reverse(falling)
	var mixed []byte
	for c := range 256 {
		mixed = append(mixed, byte(c*77+13))
	}
	for _, l := range [][]byte{rising, falling, mixed, slices.Repeat(mixed, 40), slices.Concat(rising, falling)} {
		if got := sets.Of(l...); got != full() {
			t.Errorf("of %d bytes: %x", len(l), got)
		}
	}
	for c := range 256 {
		without := slices.Delete(slices.Clone(rising), c, c+1)
		hasJust(t, sets.Of(without...), those(func(other int) bool { return other != c }))
	}
}

// P8.1: Of lists of all lengths that neither rise nor have each byte once.
func TestOfLists(t *testing.T) {
	m := mixer(2)
	for n := range 400 {
		l := m.bytes(n)
		hasJust(t, sets.Of(l...), among(l))
	}
	long := m.bytes(1 << 20)
	for i := range long {
		long[i] |= 1
	}
	hasJust(t, sets.Of(long...), those(func(c int) bool { return c%2 == 1 }))
}

// P8.1: Span of all pairs of bytes: none if from is above to, one byte if they are the same, all of 0 to 255.
func TestSpan(t *testing.T) {
	for from := range 256 {
		for to := range 256 {
			want := those(func(c int) bool { return from <= c && c <= to })
			if got := sets.Span(byte(from), byte(to)); got != want.set() {
				t.Fatalf("Span(%d, %d) = %x, want %x", from, to, got, want.set())
			}
		}
	}
}

// P8.1: spans by their numbers.
func TestSpanByNumbers(t *testing.T) {
	for _, c := range []struct {
		from, to byte
		want     api.Set
	}{
		{0, 255, full()},
		{0, 0, api.Set{1}},
		{255, 255, api.Set{0, 0, 0, 1 << 63}},
		{255, 0, api.Set{}},
		{1, 0, api.Set{}},
		{255, 254, api.Set{}},
		{0, 63, api.Set{^uint64(0)}},
		{64, 127, api.Set{0, ^uint64(0)}},
		{128, 191, api.Set{0, 0, ^uint64(0)}},
		{192, 255, api.Set{0, 0, 0, ^uint64(0)}},
		{63, 64, api.Set{1 << 63, 1}},
		{127, 128, api.Set{0, 1 << 63, 1}},
		{191, 192, api.Set{0, 0, 1 << 63, 1}},
		{97, 122, api.Set{0, 0x07FFFFFE00000000}},
		{63, 192, api.Set{1 << 63, ^uint64(0), ^uint64(0), 1}},
	} {
		if got := sets.Span(c.from, c.to); got != c.want {
			t.Errorf("Span(%d, %d) = %x, want %x", c.from, c.to, got, c.want)
		}
	}
}
