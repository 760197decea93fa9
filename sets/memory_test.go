package sets_test

import (
	"bytes"
	"slices"
	"testing"

	"incunable/api"
	"incunable/sets"
)

// P8.1: what Of is handed is only read, what stands around it and its spare room too, and has no say.
func TestListsAreOnlyRead(t *testing.T) {
	m := mixer(6)
	for n := range 40 {
		l := m.bytes(n)
		whole := bytes.Repeat([]byte{0xA5}, n+90)
		copy(whole[8:], l)
		before := bytes.Clone(whole)
		got := sets.Of(whole[8 : 8+n]...)
		if !bytes.Equal(whole, before) {
			t.Fatalf("% x became % x", before, whole)
		}
		hasJust(t, got, among(l))
	}
}

// P8.1, P8.4: a list is not kept: it changes behind the call, and neither the set does nor what All tells of it.
func TestListsAreNotKept(t *testing.T) {
	m := mixer(7)
	for n := range 40 {
		l := m.bytes(n)
		want := among(l)
		s := sets.Of(l...)
		all := sets.All(s)
		for i := range l {
			l[i] ^= 0xFF
		}
		hasJust(t, s, want)
		tellsJust(t, all, want.list())
	}
}

// P8.1, P8.2: sets that are handed in stay as they are, whatever is reckoned with them.
func TestSetsAreOnlyRead(t *testing.T) {
	for _, a := range someSets() {
		b := sets.Of(ends()...)
		wasA, wasB := a, b
		sets.Union(a, b)
		sets.Both(a, b)
		sets.Less(a, b)
		sets.Not(a)
		sets.Has(a, 9)
		sets.Len(a)
		sets.Least(a)
		for range sets.All(a) {
			sets.Less(b, a)
		}
		if a != wasA || b != wasB {
			t.Fatalf("%x became %x, %x became %x", wasA, a, wasB, b)
		}
	}
}

// P8.2: All tells the bytes that were in when it was asked, whatever becomes of the set, while it is ranged over too.
func TestAllKeepsItsOwnSet(t *testing.T) {
	for _, was := range someSets() {
		s := was
		want := told(was).list()
		all := sets.All(s)
		s = sets.Not(s)
		tellsJust(t, all, want)
		s = was
		var got []byte
		for c := range sets.All(s) {
			got = append(got, c)
			s = api.Set{}
		}
		if !bytes.Equal(got, want) {
			t.Fatalf("of %x, which was emptied: % x, want % x", was, got, want)
		}
	}
}

// P8.1, P8.2, R2: what is answered is one's own: it may be changed, and the next answer is as it was.
func TestAnswersAreOnesOwn(t *testing.T) {
	l := someSets()
	for i, a := range l {
		b := l[(i*7+3)%len(l)]
		ask := func() []api.Set {
			return []api.Set{sets.Union(a, b), sets.Both(a, b), sets.Less(a, b), sets.Not(a), sets.Span(3, 200), sets.Of(), sets.Of(5, 99)}
		}
		first := ask()
		spoilt := slices.Clone(first)
		for i := range spoilt {
			spoilt[i][i%4]++
		}
		if !slices.Equal(ask(), first) || !slices.Equal(first, ask()) {
			t.Fatalf("with %x and %x something is answered otherwise", a, b)
		}
	}
}

// R2: calls at the same time, ranges over one answer with them, are answered as if they came one behind the other.
func TestCallsAtTheSameTime(t *testing.T) {
	const calls = 8
	want := someSets()
	one := sets.Not(sets.Of(ends()...))
	all, list := sets.All(one), told(one).list()
	wrong := make(chan int, calls)
	for range calls {
		go func() {
			bad := 0
			for _, a := range want {
				if sets.Of(slices.Collect(sets.All(a))...) != a || !bytes.Equal(slices.Collect(all), list) {
					bad++
				}
			}
			wrong <- bad
		}()
	}
	for range calls {
		if bad := <-wrong; bad > 0 {
			t.Errorf("%d wrong answers", bad)
		}
	}
}
