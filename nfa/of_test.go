package nfa_test

import (
	"slices"
	"testing"

	"incunable/api"
	"incunable/nfa"
	"incunable/regex"
)

// isNetOf fails unless the net of patterns is that one, and may be.
func isNetOf(t *testing.T, l []api.Rex, want api.Nfa) {
	t.Helper()
	n, e := nfa.Of(l)
	if e != api.OK || !sameNet(n, want) {
		t.Fatalf("Of(%v) = %v, %d, want %v", l, n, e, want)
	}
	if e := nfa.Check(n); e != api.OK {
		t.Fatalf("Of(%v) is no net: %d", l, e)
	}
}

// P10.1: the net of a* and b is that of the examples, edge by edge.
func TestOfAsInTheExamples(t *testing.T) {
	isNetOf(t, parsed(t, "a*", "b"), api.Nfa{
		States: 7,
		Edges:  []api.Edge{by(1, 2, 'a'), free(3, 4), free(3, 1), free(2, 1), free(2, 4), free(0, 3), by(5, 6, 'b'), free(0, 5)},
		Ends:   []int{4, 6},
	})
}

// P10.1: the net of no pattern is the beginning alone.
func TestOfNoPattern(t *testing.T) {
	isNetOf(t, nil, api.Nfa{States: 1})
	isNetOf(t, []api.Rex{}, api.Nfa{States: 1})
}

// P10.1: each kind of node has its edges, in the order that is told.
func TestOfEachKind(t *testing.T) {
	x, y := by(1, 2, 'x'), by(3, 4, 'y')
	nothing := api.RNode{Kind: api.RexNil}
	node := func(c byte) api.RNode { return api.RNode{Kind: api.RexSet, Set: those(c)} }
	for _, c := range []struct {
		l    []api.RNode
		want []api.Edge
	}{
		{[]api.RNode{nothing}, []api.Edge{free(1, 2), free(0, 1)}},
		{[]api.RNode{node('x')}, []api.Edge{x, free(0, 1)}},
		{[]api.RNode{{Kind: api.RexSet}}, []api.Edge{{From: 1, To: 2}, free(0, 1)}},
		{[]api.RNode{{Kind: api.RexSet, Set: full()}}, []api.Edge{{From: 1, To: 2, Set: full()}, free(0, 1)}},
		{[]api.RNode{node('x'), node('y'), {Kind: api.RexSeq, A: 0, B: 1}}, []api.Edge{x, y, free(5, 1), free(2, 3), free(4, 6), free(0, 5)}},
		{[]api.RNode{node('x'), node('y'), {Kind: api.RexAlt, A: 0, B: 1}}, []api.Edge{x, y, free(5, 1), free(5, 3), free(2, 6), free(4, 6), free(0, 5)}},
		{[]api.RNode{node('x'), {Kind: api.RexStar}}, []api.Edge{x, free(3, 4), free(3, 1), free(2, 1), free(2, 4), free(0, 3)}},
		{[]api.RNode{node('x'), {Kind: api.RexPlus}}, []api.Edge{x, free(3, 1), free(2, 1), free(2, 4), free(0, 3)}},
		{[]api.RNode{nothing, {Kind: api.RexPlus}}, []api.Edge{free(1, 2), free(3, 1), free(2, 1), free(2, 4), free(0, 3)}},
	} {
		last := 2 * len(c.l)
		isNetOf(t, []api.Rex{{L: c.l}}, api.Nfa{States: last + 1, Edges: c.want, Ends: []int{last}})
	}
}

// P10.1: a pattern's parts stand where its nodes do, not next to them.
func TestOfPartsFarOff(t *testing.T) {
	isNetOf(t, parsed(t, "xy|z*"), api.Nfa{
		States: 13,
		Edges: []api.Edge{
			by(1, 2, 'x'), by(3, 4, 'y'), free(5, 1), free(2, 3), free(4, 6),
			by(7, 8, 'z'), free(9, 10), free(9, 7), free(8, 7), free(8, 10),
			free(11, 5), free(11, 9), free(6, 12), free(10, 12),
			free(0, 11),
		},
		Ends: []int{12},
	})
}

// P10.1: each kind of node within each other kind, and these within each.
func TestOfKindsWithinKinds(t *testing.T) {
	l := [][]api.RNode{{{Kind: api.RexNil}}, {{Kind: api.RexSet, Set: those('a', 'z')}}, {{Kind: api.RexSet}}}
	around := func(kind int, parts ...[]api.RNode) []api.RNode {
		var l []api.RNode
		n := api.RNode{Kind: kind}
		for i, p := range parts {
			base := len(l)
			for _, x := range p {
				if x.Kind >= api.RexSeq {
					x.A += base
				}
				if x.Kind == api.RexSeq || x.Kind == api.RexAlt {
					x.B += base
				}
				l = append(l, x)
			}
			if i == 0 {
				n.A = len(l) - 1
			} else {
				n.B = len(l) - 1
			}
		}
		return append(l, n)
	}
	grown := func(l [][]api.RNode) [][]api.RNode {
		out := slices.Clone(l)
		for _, a := range l {
			out = append(out, around(api.RexStar, a), around(api.RexPlus, a))
			for _, b := range l {
				out = append(out, around(api.RexSeq, a, b), around(api.RexAlt, a, b))
			}
		}
		return out
	}
	for _, x := range grown(grown(l)) {
		p := []api.Rex{{L: x}}
		if e := regex.Check(p[0]); e != api.OK {
			t.Fatalf("%v is no pattern", x)
		}
		isNetOf(t, p, slowOf(p))
	}
}

// P10.1: nets of some patterns of all shapes.
func TestOfPatterns(t *testing.T) {
	m := mixer(1)
	for i := range 2000 {
		l := m.patterns(m.below(8), 1+i/50)
		if want := slowOf(l); want.States <= api.MaxNfa {
			isNetOf(t, l, want)
		}
	}
}

// P10.1: 64 patterns may be, 65 may not, whatever they are.
func TestOfHowManyPatterns(t *testing.T) {
	one := parsed(t, "a")
	for _, n := range []int{1, 2, 63, 64} {
		l := slices.Repeat(one, n)
		isNetOf(t, l, slowOf(l))
		if x := made(t, l); x.States != 1+2*n || len(x.Edges) != 2*n || len(x.Ends) != n {
			t.Errorf("%d patterns: %d states, %d edges, %d ends", n, x.States, len(x.Edges), len(x.Ends))
		}
	}
	for _, l := range [][]api.Rex{slices.Repeat(one, 65), slices.Repeat(one, 1000), make([]api.Rex, 65), slices.Repeat([]api.Rex{{L: make([]api.RNode, 257)}}, 65)} {
		if n, e := nfa.Of(l); e != api.ErrLimit || !isNothing(n) {
			t.Errorf("%d patterns: %v, %d", len(l), n, e)
		}
	}
}

// long is a pattern of so many nodes: one, and stars around it.
func long(nodes int) api.Rex {
	l := []api.RNode{{Kind: api.RexNil}}
	for i := 1; i < nodes; i++ {
		l = append(l, api.RNode{Kind: api.RexStar, A: i - 1})
	}
	return api.Rex{L: l}
}

// P10.1: nets of up to 2048 states may be: patterns of 1023 nodes; those of more may not.
func TestOfHowManyStates(t *testing.T) {
	for _, c := range []struct {
		nodes  []int
		states int
	}{{[]int{256, 256, 256, 255}, 2047}, {[]int{255, 256, 256, 255}, 2045}, {[]int{256, 256, 256, 256}, 0}, {[]int{256, 256, 256, 255, 1}, 0}, {[]int{1, 256, 256, 256, 256}, 0}} {
		var l []api.Rex
		for _, n := range c.nodes {
			l = append(l, long(n))
		}
		if c.states > 0 {
			isNetOf(t, l, slowOf(l))
			if n := made(t, l); n.States != c.states {
				t.Errorf("%v: %d states", c.nodes, n.States)
			}
			continue
		}
		if n, e := nfa.Of(l); e != api.ErrLimit || !isNothing(n) {
			t.Errorf("%v: %d states, %d", c.nodes, n.States, e)
		}
	}
	var l []api.Rex
	for range 64 {
		l = append(l, long(16))
	}
	if n, e := nfa.Of(l); e != api.ErrLimit || !isNothing(n) {
		t.Errorf("64 of 16: %d states, %d", n.States, e)
	}
	l[7] = long(15)
	isNetOf(t, l, slowOf(l))
}

// P10.1: the first pattern that may not be tells the error; ahead of too many states, behind too many patterns.
func TestOfTheFirstThatMayNotBe(t *testing.T) {
	fine, none, great := long(256), api.Rex{}, api.Rex{L: make([]api.RNode, 257)}
	odd := api.Rex{L: []api.RNode{{Kind: api.RexNil, A: 1}}}
	for i, c := range []struct {
		l    []api.Rex
		want api.Errno
	}{
		{[]api.Rex{none}, api.ErrArg},
		{[]api.Rex{odd}, api.ErrArg},
		{[]api.Rex{great}, api.ErrLimit},
		{[]api.Rex{none, great}, api.ErrArg},
		{[]api.Rex{great, none}, api.ErrLimit},
		{[]api.Rex{fine, great, odd}, api.ErrLimit},
		{[]api.Rex{fine, odd, great}, api.ErrArg},
		{[]api.Rex{fine, fine, fine, fine, odd}, api.ErrArg},
		{[]api.Rex{fine, fine, fine, fine, fine, fine, none}, api.ErrArg},
		{[]api.Rex{odd, fine, fine, fine, fine}, api.ErrArg},
		{append(slices.Repeat([]api.Rex{fine}, 63), odd), api.ErrArg},
		{append(slices.Repeat([]api.Rex{odd}, 64), fine), api.ErrLimit},
	} {
		if n, e := nfa.Of(c.l); e != c.want || !isNothing(n) {
			t.Errorf("%d: %v, %d, want %d", i, n, e, c.want)
		}
	}
}
