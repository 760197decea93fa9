package nfa_test

import (
	"math"
	"slices"
	"testing"

	"incunable/api"
	"incunable/nfa"
)

// P10.2: as in the examples.
func TestStatesAsInTheExamples(t *testing.T) {
	n := netOf(t, "a*", "b")
	if l := closed(t, n, 0); !slices.Equal(l, []int{0, 1, 3, 4, 5}) {
		t.Errorf("Close(0) = %v", l)
	}
	if l := stepped(t, n, 'a', 0, 1, 5); !slices.Equal(l, []int{2}) {
		t.Errorf("Step(0, 1, 5; a) = %v", l)
	}
}

// P10.2: free edges are gone along as far as they lead, from each state, not backwards, and not along edges by bytes.
func TestClose(t *testing.T) {
	n := api.Nfa{States: 9, Edges: []api.Edge{free(5, 3), free(3, 0), by(0, 1, 'a'), {From: 0, To: 2, Set: full()}, by(0, 4), free(6, 7), free(7, 8), free(8, 6), free(2, 2)}}
	for _, c := range []struct{ l, want []int }{
		{nil, nil},
		{[]int{0}, []int{0}},
		{[]int{1}, []int{1}},
		{[]int{2}, []int{2}},
		{[]int{3}, []int{0, 3}},
		{[]int{5}, []int{0, 3, 5}},
		{[]int{6}, []int{6, 7, 8}},
		{[]int{7}, []int{6, 7, 8}},
		{[]int{8}, []int{6, 7, 8}},
		{[]int{8, 5}, []int{0, 3, 5, 6, 7, 8}},
		{[]int{5, 3, 0}, []int{0, 3, 5}},
		{[]int{4, 1, 4, 1}, []int{1, 4}},
		{[]int{8, 7, 6, 5, 4, 3, 2, 1, 0}, states(9)},
	} {
		if l := closed(t, n, c.l...); !slices.Equal(l, c.want) {
			t.Errorf("Close(%v) = %v, want %v", c.l, l, c.want)
		}
	}
}

// P10.2: a ring of free edges, of all states, is gone around once, whichever way its edges are told.
func TestCloseOfRings(t *testing.T) {
	for _, states := range []int{1, 2, 3, 100, 2048} {
		n := api.Nfa{States: states}
		for i := range states {
			n.Edges = append(n.Edges, free(i, (i+1)%states))
		}
		other := copied(n)
		slices.Reverse(other.Edges)
		for _, from := range []int{0, states / 2, states - 1} {
			for _, n := range []api.Nfa{n, other} {
				if l := closed(t, n, from); !slices.Equal(l, slowClose(n, []int{from})) || len(l) != states {
					t.Errorf("%d states, from %d: %d", states, from, len(l))
				}
			}
		}
	}
}

// P10.2: behind a byte is where edges lead by sets that have it, and nothing more: neither the states themselves nor what is reached from there for nothing.
func TestStep(t *testing.T) {
	n := api.Nfa{States: 7, Edges: []api.Edge{by(0, 3, 'a', 'b'), by(0, 1, 'a'), by(0, 1, 'b'), free(1, 5), by(1, 6, 'a'), by(2, 2, 'a'), by(3, 0), {From: 4, To: 6, Set: full()}, free(0, 4), by(2, 0, 'a'), by(5, 1, 0, 255), by(0, 1, 'a')}}
	for _, c := range []struct {
		l    []int
		c    byte
		want []int
	}{
		{nil, 'a', nil},
		{[]int{0}, 'a', []int{1, 3}},
		{[]int{0}, 'b', []int{1, 3}},
		{[]int{0}, 'c', nil},
		{[]int{1}, 'a', []int{6}},
		{[]int{1}, 'b', nil},
		{[]int{2}, 'a', []int{0, 2}},
		{[]int{3}, 'a', nil},
		{[]int{3}, 0, nil},
		{[]int{4}, 0, []int{6}},
		{[]int{4}, 255, []int{6}},
		{[]int{5}, 0, []int{1}},
		{[]int{5}, 255, []int{1}},
		{[]int{5}, 1, nil},
		{[]int{6}, 'a', nil},
		{[]int{4, 1, 0, 4, 0}, 'a', []int{1, 3, 6}},
		{[]int{6, 5, 4, 3, 2, 1, 0}, 'a', []int{0, 1, 2, 3, 6}},
		{[]int{0, 1, 2, 3, 4, 5, 6}, 'b', []int{1, 3, 6}},
	} {
		if l := stepped(t, n, c.c, c.l...); !slices.Equal(l, c.want) {
			t.Errorf("Step(%v, %d) = %v, want %v", c.l, c.c, l, c.want)
		}
	}
}

// P10.2: an edge by one byte is gone along by that one alone.
func TestStepByEachByte(t *testing.T) {
	for c := range 256 {
		n := api.Nfa{States: 2, Edges: []api.Edge{by(0, 1, byte(c))}}
		for d := range 256 {
			if l := stepped(t, n, byte(d), 0); (len(l) == 1) != (c == d) {
				t.Errorf("by %d, behind %d: %v", c, d, l)
			}
		}
	}
}

// P10.2: no states, and all of them.
func TestOfNoStatesAndAll(t *testing.T) {
	m := mixer(2)
	for range 200 {
		n := m.net(1+m.below(40), m.below(100), 1)
		all := states(n.States)
		if l := closed(t, n, all...); !slices.Equal(l, all) {
			t.Fatalf("Close of all: %v", l)
		}
		if l := stepped(t, n, 'a', all...); !slices.Equal(l, slowStep(n, all, 'a')) {
			t.Fatalf("Step of all: %v", l)
		}
		for _, none := range [][]int{nil, {}} {
			if a, b := closed(t, n, none...), stepped(t, n, 'a', none...); len(a)+len(b) > 0 {
				t.Fatalf("of no states: %v, %v", a, b)
			}
		}
	}
}

// P10.2: nets of all sorts, held against the words: states in any order, and more than once.
func TestStatesOfNets(t *testing.T) {
	m := mixer(3)
	for i := range 4000 {
		n := m.net(1+m.below(1+i/40), m.below(1+i/20), 0)
		l := m.some(n, 2*n.States)
		if got, want := closed(t, n, l...), slowClose(n, l); !slices.Equal(got, want) {
			t.Fatalf("%v: Close(%v) = %v, want %v", n, l, got, want)
		}
		c := "abcd"[m.below(4)]
		if got, want := stepped(t, n, c, l...), slowStep(n, l, c); !slices.Equal(got, want) {
			t.Fatalf("%v: Step(%v, %c) = %v, want %v", n, l, c, got, want)
		}
	}
}

// P10.2: the greatest nets.
func TestStatesOfTheGreatest(t *testing.T) {
	m := mixer(4)
	for range 10 {
		n := m.net(2048, 8192, 64)
		for _, l := range [][]int{{0}, {2047}, m.some(n, 100), states(2048)} {
			if got, want := closed(t, n, l...), slowClose(n, l); !slices.Equal(got, want) {
				t.Fatalf("Close: %v, want %v", got, want)
			}
			if got, want := stepped(t, n, 'a', l...), slowStep(n, l, 'a'); !slices.Equal(got, want) {
				t.Fatalf("Step: %v, want %v", got, want)
			}
		}
	}
}

// P10.2: a state told very often, with all edges from it, is still one.
func TestOneStateVeryOften(t *testing.T) {
	n := api.Nfa{States: 2048}
	for i := range 8192 {
		n.Edges = append(n.Edges, api.Edge{From: 7, To: i % 2048, Set: full()})
	}
	l := slices.Repeat([]int{7}, 1<<20)
	if got := stepped(t, n, 'a', l...); !slices.Equal(got, states(2048)) {
		t.Errorf("Step: %d states", len(got))
	}
	if got := closed(t, n, l...); !slices.Equal(got, []int{7}) {
		t.Errorf("Close: %d states", len(got))
	}
}

// P10.2: states that there are not, at any place.
func TestStatesThatThereAreNot(t *testing.T) {
	n := netOf(t, "a*", "b")
	for _, wrong := range []int{-1, 7, 8, 2047, 2048, math.MinInt, math.MaxInt} {
		for at := range 4 {
			l := slices.Insert([]int{0, 6, 0}, at, wrong)
			if got, e := nfa.Close(n, l); e != api.ErrRange || len(got) > 0 {
				t.Errorf("Close(%v) = %v, %d", l, got, e)
			}
			if got, e := nfa.Step(n, l, 'a'); e != api.ErrRange || len(got) > 0 {
				t.Errorf("Step(%v) = %v, %d", l, got, e)
			}
		}
	}
	for _, states := range []int{1, 2, 2048} {
		n := api.Nfa{States: states}
		if got := closed(t, n, states-1); !slices.Equal(got, []int{states - 1}) {
			t.Errorf("%d states: %v", states, got)
		}
		if _, e := nfa.Close(n, []int{states}); e != api.ErrRange {
			t.Errorf("%d states: %d", states, e)
		}
		if _, e := nfa.Step(n, []int{states}, 0); e != api.ErrRange {
			t.Errorf("%d states: %d", states, e)
		}
	}
}
