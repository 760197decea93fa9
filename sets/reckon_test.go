package sets_test

import (
	"testing"

	"incunable/api"
	"incunable/sets"
)

// P8.1, P8.3: what comes of two has a byte just as the words say; looked at byte by byte, for each two of sets of all sorts.
func TestWhatComesOfTwo(t *testing.T) {
	l := someSets()
	for _, a := range l {
		inA := told(a)
		for _, b := range l {
			inB := told(b)
			hasJust(t, sets.Union(a, b), those(func(c int) bool { return inA[c] || inB[c] }))
			hasJust(t, sets.Both(a, b), those(func(c int) bool { return inA[c] && inB[c] }))
			hasJust(t, sets.Less(a, b), those(func(c int) bool { return inA[c] && !inB[c] }))
		}
	}
}

// P8.1, P8.3: Not is what is not in.
func TestNot(t *testing.T) {
	for _, a := range someSets() {
		in := told(a)
		hasJust(t, sets.Not(a), those(func(c int) bool { return !in[c] }))
	}
	for c := range 256 {
		hasJust(t, sets.Not(sets.Of(byte(c))), those(func(other int) bool { return other != c }))
	}
}

// P8.1: each two bytes, alone: what they are together, in both, and one without the other.
func TestWhatComesOfTwoBytes(t *testing.T) {
	for x := range 256 {
		for y := range 256 {
			a, b := sets.Of(byte(x)), sets.Of(byte(y))
			together := among([]byte{byte(x), byte(y)}).set()
			both, less := api.Set{}, a
			if x == y {
				both, less = a, api.Set{}
			}
			if sets.Union(a, b) != together || sets.Both(a, b) != both || sets.Less(a, b) != less {
				t.Fatalf("of %d and %d: %x, %x, %x", x, y, sets.Union(a, b), sets.Both(a, b), sets.Less(a, b))
			}
		}
	}
}

// alike fails unless all of these are the same set.
func alike(t *testing.T, what string, first api.Set, others ...api.Set) {
	t.Helper()
	for i, s := range others {
		if s != first {
			t.Fatalf("%s: %x, and (%d) %x", what, first, i+1, s)
		}
	}
}

// P8.3: a set and no bytes, all, itself, and what is not in it.
func TestOneSet(t *testing.T) {
	none, all := sets.Of(), sets.Not(sets.Of())
	alike(t, "all", full(), all, sets.Span(0, 255), sets.Not(none))
	alike(t, "none", api.Set{}, none, sets.Not(all), sets.Span(1, 0))
	for _, a := range someSets() {
		not := sets.Not(a)
		alike(t, "a", a, sets.Not(not),
			sets.Union(a, none), sets.Union(none, a), sets.Union(a, a),
			sets.Both(a, all), sets.Both(all, a), sets.Both(a, a),
			sets.Less(a, none), sets.Less(a, not), sets.Less(all, not))
		alike(t, "not a", not, sets.Less(all, a), sets.Less(not, a), sets.Union(not, none))
		alike(t, "none", none,
			sets.Both(a, none), sets.Both(none, a), sets.Both(a, not), sets.Both(not, a),
			sets.Less(a, a), sets.Less(none, a), sets.Less(a, all))
		alike(t, "all", all, sets.Union(a, not), sets.Union(not, a), sets.Union(a, all), sets.Union(all, a))
	}
}

// P8.3: what is not in what comes of two is what comes of what is not; and their order does not matter, but for Less.
func TestTwoSets(t *testing.T) {
	l := someSets()
	for _, a := range l {
		notA := sets.Not(a)
		for _, b := range l {
			notB := sets.Not(b)
			alike(t, "not in a or b", sets.Not(sets.Union(a, b)), sets.Both(notA, notB), sets.Less(notA, b), sets.Less(notB, a))
			alike(t, "not in both", sets.Not(sets.Both(a, b)), sets.Union(notA, notB))
			alike(t, "not (in a and not in b)", sets.Not(sets.Less(a, b)), sets.Union(notA, b))
			alike(t, "in a or b", sets.Union(a, b), sets.Union(b, a), sets.Union(a, sets.Less(b, a)))
			alike(t, "in both", sets.Both(a, b), sets.Both(b, a), sets.Less(a, notB), sets.Less(a, sets.Less(a, b)))
			alike(t, "in a and not in b", sets.Less(a, b), sets.Both(a, notB), sets.Less(notB, notA))
			alike(t, "a", a, sets.Union(sets.Both(a, b), sets.Less(a, b)), sets.Both(a, sets.Union(a, b)), sets.Union(a, sets.Both(a, b)))
		}
	}
}

// P8.3: three sets: brackets do not matter, and what is in one of two is parted as one thinks.
func TestThreeSets(t *testing.T) {
	m := mixer(3)
	for range 3000 {
		a, b, c := m.thinned(1), m.thinned(int(m.next()%3)), m.thinned(1)
		alike(t, "in one of three", sets.Union(sets.Union(a, b), c), sets.Union(a, sets.Union(b, c)))
		alike(t, "in all three", sets.Both(sets.Both(a, b), c), sets.Both(a, sets.Both(b, c)))
		alike(t, "in a and in one of two", sets.Both(a, sets.Union(b, c)), sets.Union(sets.Both(a, b), sets.Both(a, c)))
		alike(t, "in a or in both", sets.Union(a, sets.Both(b, c)), sets.Both(sets.Union(a, b), sets.Union(a, c)))
		alike(t, "in a, in none of two", sets.Less(a, sets.Union(b, c)), sets.Less(sets.Less(a, b), c))
	}
}

// P8.3: what is handed in as two sets is handed in as their bytes, too.
func TestReckonedByLists(t *testing.T) {
	m := mixer(4)
	for range 300 {
		x, y := m.bytes(int(m.next()%90)), m.bytes(int(m.next()%90))
		inX, inY := among(x), among(y)
		a, b := sets.Of(x...), sets.Of(y...)
		alike(t, "in one of two lists", sets.Union(a, b), sets.Of(append(append([]byte{}, x...), y...)...))
		hasJust(t, sets.Both(a, b), those(func(c int) bool { return inX[c] && inY[c] }))
		hasJust(t, sets.Less(a, b), those(func(c int) bool { return inX[c] && !inY[c] }))
	}
}
