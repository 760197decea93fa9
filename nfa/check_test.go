package nfa_test

import (
	"math"
	"slices"
	"testing"

	"incunable/api"
	"incunable/nfa"
)

// P10.1: a net has from 1 to 2048 states.
func TestHowManyStates(t *testing.T) {
	for _, n := range []int{1, 2, 2047, 2048} {
		if e := nfa.Check(api.Nfa{States: n}); e != api.OK {
			t.Errorf("%d: %d", n, e)
		}
	}
	for _, n := range []int{0, -1, -2048, math.MinInt} {
		isRefused(t, api.Nfa{States: n}, api.ErrArg)
	}
	for _, n := range []int{2049, 1 << 20, math.MaxInt} {
		isRefused(t, api.Nfa{States: n}, api.ErrLimit)
	}
}

// P10.1: a net has at most 8192 edges.
func TestHowManyEdges(t *testing.T) {
	for _, e := range []api.Edge{free(0, 0), by(0, 0, 'a'), {}} {
		l := slices.Repeat([]api.Edge{e}, 8193)
		if e := nfa.Check(api.Nfa{States: 1, Edges: l[:8192]}); e != api.OK {
			t.Errorf("8192: %d", e)
		}
		isRefused(t, api.Nfa{States: 1, Edges: l}, api.ErrLimit)
	}
}

// P10.1: a net has at most 64 rules.
func TestHowManyRules(t *testing.T) {
	for _, n := range []int{0, 1, 63, 64} {
		if e := nfa.Check(api.Nfa{States: 1, Ends: make([]int, n)}); e != api.OK {
			t.Errorf("%d: %d", n, e)
		}
	}
	isRefused(t, api.Nfa{States: 1, Ends: make([]int, 65)}, api.ErrLimit)
	isRefused(t, api.Nfa{States: 1, Ends: make([]int, 10000)}, api.ErrLimit)
}

// P10.1: edges lead from a state that there is to one that there is, at all places.
func TestEdgesOfStates(t *testing.T) {
	fine := []api.Edge{free(0, 2), by(2, 0, 'a'), by(1, 1)}
	for _, wrong := range []int{-1, 3, 4, 2048, math.MinInt, math.MaxInt} {
		for _, e := range []api.Edge{free(wrong, 0), free(0, wrong), by(wrong, 2, 'a'), by(2, wrong, 'a'), by(wrong, wrong)} {
			for at := range 4 {
				isRefused(t, api.Nfa{States: 3, Edges: slices.Insert(slices.Clone(fine), at, e)}, api.ErrArg)
			}
		}
	}
	for from := range 3 {
		for to := range 3 {
			n := api.Nfa{States: 3, Edges: []api.Edge{free(from, to), by(from, to, 'x')}}
			if e := nfa.Check(n); e != api.OK {
				t.Errorf("from %d to %d: %d", from, to, e)
			}
		}
	}
	if e := nfa.Check(api.Nfa{States: 2048, Edges: []api.Edge{free(2047, 2047)}}); e != api.OK {
		t.Errorf("2047: %d", e)
	}
	isRefused(t, api.Nfa{States: 2048, Edges: []api.Edge{free(2048, 0)}}, api.ErrArg)
	isRefused(t, api.Nfa{States: 2048, Edges: []api.Edge{free(0, 2048)}}, api.ErrArg)
}

// P10.1: rules end at states that there are; two of them may end at one.
func TestEndsOfStates(t *testing.T) {
	for _, l := range [][]int{nil, {}, {0}, {2}, {2, 0, 1}, {1, 1, 1}} {
		if e := nfa.Check(api.Nfa{States: 3, Ends: l}); e != api.OK {
			t.Errorf("%v: %d", l, e)
		}
	}
	for _, wrong := range []int{-1, 3, 2048, math.MinInt, math.MaxInt} {
		for at := range 3 {
			isRefused(t, api.Nfa{States: 3, Ends: slices.Insert([]int{0, 2}, at, wrong)}, api.ErrArg)
		}
	}
}

// P10.1: a free edge has no bytes in Set; an edge by bytes may have none, or all.
func TestSetsOfEdges(t *testing.T) {
	for c := range 256 {
		e := by(0, 0, byte(c))
		if e := nfa.Check(api.Nfa{States: 1, Edges: []api.Edge{e}}); e != api.OK {
			t.Errorf("by %d: %d", c, e)
		}
		e.Free = true
		isRefused(t, api.Nfa{States: 1, Edges: []api.Edge{free(0, 0), e}}, api.ErrArg)
		isRefused(t, api.Nfa{States: 1, Edges: []api.Edge{e, free(0, 0)}}, api.ErrArg)
	}
	for _, s := range []api.Set{{}, full()} {
		if e := nfa.Check(api.Nfa{States: 1, Edges: []api.Edge{{Set: s}}}); e != api.OK {
			t.Errorf("by %v: %d", s, e)
		}
	}
}

// P10.1: ErrLimit is told ahead of ErrArg.
func TestLimitsFirst(t *testing.T) {
	wrong := free(-1, 99)
	for _, n := range []api.Nfa{
		{States: 2049, Edges: []api.Edge{wrong}},
		{States: 2049, Ends: []int{-1}},
		{States: 2049, Edges: []api.Edge{{Free: true, Set: full()}}},
		{States: 0, Edges: slices.Repeat([]api.Edge{wrong}, 8193)},
		{States: -7, Ends: slices.Repeat([]int{-1}, 65)},
		{States: 1, Edges: []api.Edge{wrong}, Ends: slices.Repeat([]int{0}, 65)},
		{States: 1, Edges: slices.Repeat([]api.Edge{wrong}, 8193), Ends: []int{7}},
	} {
		isRefused(t, n, api.ErrLimit)
	}
}

// P10.1: of nets of few states, told otherwise: each number of an edge, of an end, in all ways.
func TestAllSmallNets(t *testing.T) {
	for states := -1; states <= 2; states++ {
		for from := -1; from <= 2; from++ {
			for to := -1; to <= 2; to++ {
				for end := -1; end <= 2; end++ {
					within := func(s int) bool { return s == 0 && states > 0 || s == 1 && states > 1 }
					want := api.ErrArg
					if within(from) && within(to) && within(end) {
						want = api.OK
					}
					for _, e := range []api.Edge{free(from, to), by(from, to, 'a')} {
						if e := nfa.Check(api.Nfa{States: states, Edges: []api.Edge{e}, Ends: []int{end}}); e != want {
							t.Errorf("%d states, from %d to %d, end %d: %d", states, from, to, end, e)
						}
					}
				}
			}
		}
	}
}
