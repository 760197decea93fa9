package sets_test

import (
	"bytes"
	"iter"
	"slices"
	"testing"

	"incunable/api"
	"incunable/sets"
)

// firstOf are the first bytes that a function tells, till there are so many; to ask for 0 is to ask for one, and to want no more.
func firstOf(all iter.Seq[byte], most int) (l []byte) {
	for c := range all {
		l = append(l, c)
		if len(l) >= most {
			break
		}
	}
	return l
}

// tellsJust fails unless All tells these bytes, in their order, each once.
func tellsJust(t *testing.T, all iter.Seq[byte], want []byte) {
	t.Helper()
	if got := slices.Collect(all); !bytes.Equal(got, want) {
		t.Fatalf("% x, want % x", got, want)
	}
}

// P8.2: All of no bytes tells nothing.
func TestAllOfNoBytes(t *testing.T) {
	for range sets.All(api.Set{}) {
		t.Fatal("a byte was told")
	}
	tellsJust(t, sets.All(sets.Of()), nil)
	tellsJust(t, sets.All(sets.Span(9, 8)), nil)
}

// P8.2: All of all bytes, rising, each once.
func TestAllOfAllBytes(t *testing.T) {
	next := 0
	for c := range sets.All(full()) {
		if int(c) != next {
			t.Fatalf("%d, want %d", c, next)
		}
		next++
	}
	if next != 256 {
		t.Fatalf("%d bytes", next)
	}
	tellsJust(t, sets.All(sets.Span(0, 255)), everyByte())
}

// P8.2: All of each byte alone, of each two, and of sets of all sorts.
func TestAll(t *testing.T) {
	for x := range 256 {
		tellsJust(t, sets.All(sets.Of(byte(x))), []byte{byte(x)})
		for y := range x {
			tellsJust(t, sets.All(sets.Of(byte(x), byte(y))), []byte{byte(y), byte(x)})
		}
	}
	tellsJust(t, sets.All(sets.Of(ends()...)), ends())
	for _, a := range someSets() {
		tellsJust(t, sets.All(a), told(a).list())
	}
}

// P8.2: it is stopped at each byte that it can be stopped at, the first and the last one with them, and tells none behind it.
func TestAllTillNobodyWantsMore(t *testing.T) {
	for _, a := range someSets() {
		l := told(a).list()
		all := sets.All(a)
		for n := 1; n <= len(l); n++ {
			if got := firstOf(all, n); !bytes.Equal(got, l[:n]) {
				t.Fatalf("the first %d of %x: % x, want % x", n, a, got, l[:n])
			}
		}
	}
}

// P8.2: who has once wanted no more is not asked again, not even for the last byte.
func TestAllAsksNoMore(t *testing.T) {
	for _, a := range []api.Set{full(), sets.Of(ends()...), sets.Of(7), sets.Span(60, 70)} {
		n := sets.Len(a)
		for stop := 1; stop <= n; stop++ {
			asked := 0
			sets.All(a)(func(byte) bool {
				asked++
				return asked < stop
			})
			if asked != stop {
				t.Fatalf("of %x it was stopped at the byte %d, and asked %d times", a, stop, asked)
			}
		}
	}
}

// P8.2: one answer of All is ranged over twice, behind a stop too, and one within the other: each begins with all.
func TestAllTwice(t *testing.T) {
	for _, a := range []api.Set{{}, full(), sets.Of(ends()...), sets.Of(200), sets.Not(sets.Of(0, 255))} {
		l := told(a).list()
		all := sets.All(a)
		tellsJust(t, all, l)
		tellsJust(t, all, l)
		for n := 1; n <= len(l); n += 1 + len(l)/9 {
			firstOf(all, n)
			tellsJust(t, all, l)
		}
		var outer []byte
		for c := range all {
			outer = append(outer, c)
			tellsJust(t, all, l)
			firstOf(all, 2)
		}
		if !bytes.Equal(outer, l) {
			t.Fatalf("with others within: % x, want % x", outer, l)
		}
	}
}

// P8.4: Of what All tells is the set.
func TestOfAll(t *testing.T) {
	again := func(a api.Set) {
		t.Helper()
		l := slices.Collect(sets.All(a))
		if got := sets.Of(l...); got != a {
			t.Fatalf("of % x: %x, want %x", l, got, a)
		}
		slices.Reverse(l)
		if got := sets.Of(slices.Repeat(l, 2)...); got != a {
			t.Fatalf("of % x, twice: %x, want %x", l, got, a)
		}
	}
	for _, a := range someSets() {
		again(a)
	}
	for from := range 256 {
		for to := range 256 {
			again(sets.Span(byte(from), byte(to)))
		}
	}
	m := mixer(5)
	for range 2000 {
		again(m.thinned(int(m.next() % 7)))
	}
}

// P8.4: sets that are not the same tell other bytes: one byte more or less is seen.
func TestSetsAreToldByTheirBytes(t *testing.T) {
	for _, a := range someSets() {
		l := slices.Collect(sets.All(a))
		for c := range 256 {
			other := a
			other[c/64] ^= 1 << (c % 64)
			if bytes.Equal(slices.Collect(sets.All(other)), l) {
				t.Fatalf("%x and %x tell % x", a, other, l)
			}
		}
	}
}
