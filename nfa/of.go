package nfa

import (
	"incunable/api"
	"incunable/regex"
)

// Of is the net of patterns.
func Of(l []api.Rex) (api.Nfa, api.Errno) {
	if len(l) > api.MaxRules {
		return api.Nfa{}, api.ErrLimit
	}
	states := 1
	for _, x := range l {
		if e := regex.Check(x); e != api.OK {
			return api.Nfa{}, e
		}
		states += 2 * len(x.L)
	}
	if states > api.MaxNfa {
		return api.Nfa{}, api.ErrLimit
	}
	n := api.Nfa{States: 1}
	for _, x := range l {
		n = withPattern(n, x.L)
	}
	return n, api.OK
}

// withPattern is a net, and a pattern behind what it has.
func withPattern(n api.Nfa, l []api.RNode) api.Nfa {
	first := n.States
	for i, x := range l {
		n.Edges = append(n.Edges, edgesOf(x, partAt(first, i), partAt(first, x.A), partAt(first, x.B))...)
	}
	whole := partAt(first, len(l)-1)
	n.States = whole.out + 1
	n.Edges = append(n.Edges, free(0, whole.in))
	n.Ends = append(n.Ends, whole.out)
	return n
}

// A part is where a node begins in the net, and where it ends.
type part struct{ in, out int }

// partAt is that of a node, by its place in a pattern whose first state is told.
func partAt(first, place int) part {
	return part{first + 2*place, first + 2*place + 1}
}

// edgesOf are the edges of a node, by where it is, and its parts are. (What is told of a part that it has not has no say.)
func edgesOf(x api.RNode, n, a, b part) []api.Edge {
	switch x.Kind {
	case api.RexSet:
		return []api.Edge{{From: n.in, To: n.out, Set: x.Set}}
	case api.RexSeq:
		return []api.Edge{free(n.in, a.in), free(a.out, b.in), free(b.out, n.out)}
	case api.RexAlt:
		return []api.Edge{free(n.in, a.in), free(n.in, b.in), free(a.out, n.out), free(b.out, n.out)}
	case api.RexStar:
		return []api.Edge{free(n.in, n.out), free(n.in, a.in), free(a.out, a.in), free(a.out, n.out)}
	case api.RexPlus:
		return []api.Edge{free(n.in, a.in), free(a.out, a.in), free(a.out, n.out)}
	}
	return []api.Edge{free(n.in, n.out)}
}

func free(from, to int) api.Edge {
	return api.Edge{From: from, To: to, Free: true}
}
