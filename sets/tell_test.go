package sets_test

import (
	"testing"

	"incunable/api"
	"incunable/sets"
)

// P8.2: Has of each byte and each set of one byte, of none, of all and of all but one.
func TestHas(t *testing.T) {
	for x := range 256 {
		one := sets.Of(byte(x))
		others := sets.Not(one)
		for y := range 256 {
			c := byte(y)
			if sets.Has(one, c) != (x == y) || sets.Has(others, c) != (x != y) {
				t.Fatalf("Has of %d alone, and %d: %v; of all others: %v", x, y, sets.Has(one, c), sets.Has(others, c))
			}
		}
		if sets.Has(api.Set{}, byte(x)) || !sets.Has(full(), byte(x)) {
			t.Fatalf("Has of no bytes, and %d: %v; of all: %v", x, sets.Has(api.Set{}, byte(x)), sets.Has(full(), byte(x)))
		}
	}
	for _, a := range someSets() {
		hasJust(t, a, told(a))
	}
}

// P8.2: Len from 0 to 256, whichever bytes they are.
func TestLen(t *testing.T) {
	lens := func(want int, l ...api.Set) {
		t.Helper()
		for _, s := range l {
			if got := sets.Len(s); got != want {
				t.Fatalf("Len(%x) = %d, want %d", s, got, want)
			}
		}
	}
	lens(0, api.Set{}, sets.Of())
	lens(256, full(), sets.Span(0, 255))
	lens(255, sets.Not(sets.Of(0)))
	for n := 1; n <= 256; n++ {
		mixed := those(func(c int) bool { return byte(c*77+13) < byte(n) || n == 256 }).set()
		lens(n, sets.Span(0, byte(n-1)), sets.Span(byte(256-n), 255), mixed)
		lens(256-n, sets.Not(mixed))
	}
	for c := range 256 {
		lens(1, sets.Of(byte(c), byte(c)))
		lens(255, sets.Not(sets.Of(byte(c))))
	}
	for _, a := range someSets() {
		lens(len(told(a).list()), a)
	}
}

// leastIs fails unless Least answers just this.
func leastIs(t *testing.T, s api.Set, want byte, wantIs bool) {
	t.Helper()
	if got, is := sets.Least(s); got != want || is != wantIs {
		t.Fatalf("Least(%x) = %d, %v, want %d, %v", s, got, is, want, wantIs)
	}
}

// P8.2: Least of no bytes is nothing, and what stands beside it is zero.
func TestLeastOfNoBytes(t *testing.T) {
	leastIs(t, sets.Of(), 0, false)
	leastIs(t, api.Set{}, 0, false)
	leastIs(t, sets.Not(full()), 0, false)
	leastIs(t, sets.Of(0), 0, true)
	leastIs(t, sets.Not(sets.Of(0)), 1, true)
}

// P8.2: Least of each byte alone, and of each two.
func TestLeastOfFewBytes(t *testing.T) {
	for x := range 256 {
		leastIs(t, sets.Of(byte(x)), byte(x), true)
		leastIs(t, sets.Span(byte(x), 255), byte(x), true)
		leastIs(t, sets.Span(0, byte(x)), 0, true)
		for y := range 256 {
			leastIs(t, sets.Of(byte(x), byte(y)), byte(min(x, y)), true)
		}
	}
}

// P8.2: Least of sets of all sorts.
func TestLeast(t *testing.T) {
	for _, a := range someSets() {
		l := told(a).list()
		if len(l) == 0 {
			leastIs(t, a, 0, false)
		} else {
			leastIs(t, a, l[0], true)
		}
	}
}
