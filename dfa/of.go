package dfa

import (
	"cmp"
	"slices"

	"incunable/api"
	"incunable/nfa"
	"incunable/sets"
)

// Of is the machine of a net.
func Of(n api.Nfa) (api.Dfa, api.Errno) {
	if e := nfa.Check(n); e != api.OK {
		return api.Dfa{}, e
	}
	m := makerOf(n)
	m.stateOf([]int{0})
	for s := 0; s < len(m.found); s++ {
		m.Next = append(m.Next, m.row(m.found[s]))
		if len(m.found) > api.MaxDfa {
			return api.Dfa{}, api.ErrLimit
		}
	}
	return m.Dfa, api.OK
}

// A maker makes the machine of a net, state by state. It has the net's edges by the states that they lead from, as nfa's calls would look through all of them each time.
type maker struct {
	api.Dfa
	ends    []int          // of the net's rules
	free    [][]int        // of each of the net's states: where free edges lead
	edges   [][]api.Edge   // of each of the net's states: the other edges
	leasts  []byte         // of each class: its least byte
	found   [][]int        // of each of the machine's states: which of the net's it is
	numbers map[string]int // the machine's states, by the texts of the net's; that of none is nowhere
	reached []int          // of each of the net's states: the last round in which it was reached
	round   int
}

// makerOf is the maker of a net that may be; it has the classes, and no state yet.
func makerOf(n api.Nfa) *maker {
	m := &maker{
		ends:    n.Ends,
		free:    make([][]int, n.States),
		edges:   make([][]api.Edge, n.States),
		numbers: map[string]int{textOf(nil): nowhere},
		reached: make([]int, n.States),
	}
	for _, e := range n.Edges {
		if e.Free {
			m.free[e.From] = append(m.free[e.From], e.To)
		} else {
			m.edges[e.From] = append(m.edges[e.From], e)
		}
	}
	for k, class := range classesOf(n.Edges) {
		for c := range sets.All(class) {
			m.Class[c] = k
		}
		m.leasts = append(m.leasts, least(class))
	}
	return m
}

// classesOf are the classes into which edges part the bytes, by their least bytes.
func classesOf(edges []api.Edge) []api.Set {
	l := []api.Set{sets.Span(0, maxClasses-1)}
	for _, e := range edges {
		for k, class := range l {
			in, out := sets.Both(class, e.Set), sets.Less(class, e.Set)
			if in != (api.Set{}) && out != (api.Set{}) {
				l[k] = in
				l = append(l, out)
			}
		}
	}
	slices.SortFunc(l, func(a, b api.Set) int { return cmp.Compare(least(a), least(b)) })
	return l
}

// least is the least byte of a class, which has one.
func least(class api.Set) byte {
	c, _ := sets.Least(class)
	return c
}

// row tells where a state of the machine goes, class by class.
func (m *maker) row(states []int) []int {
	behind := lists(len(m.leasts))
	for _, s := range states {
		for _, e := range m.edges[s] {
			for k, c := range m.leasts {
				if sets.Has(e.Set, c) {
					behind[k] = append(behind[k], e.To)
				}
			}
		}
	}
	row := make([]int, len(behind))
	for k, l := range behind {
		row[k] = m.stateOf(l)
	}
	return row
}

// lists are so many without elements, with room for some. They lie in one piece of memory, each with its own end: what is put behind a full one moves away, and does not run into the next one.
func lists(n int) [][]int {
	const room = 8
	all := make([]int, n*room)
	l := make([][]int, n)
	for i := range l {
		l[i] = all[i*room : i*room : (i+1)*room]
	}
	return l
}

// stateOf is the machine's state that is some of the net's, and what is reached from them for nothing: a new one, if there was none; nowhere, if these are none.
func (m *maker) stateOf(states []int) int {
	all := m.closed(states)
	text := textOf(all)
	s, is := m.numbers[text]
	if !is {
		s = len(m.found)
		m.numbers[text] = s
		m.found = append(m.found, all)
		m.Rule = append(m.Rule, m.ruleOf(all))
	}
	return s
}

// closed are some of the net's states, and what is reached from them for nothing, rising, each once.
func (m *maker) closed(states []int) []int {
	m.round++
	l := m.reach(nil, states)
	for i := 0; i < len(l); i++ {
		l = m.reach(l, m.free[l[i]])
	}
	slices.Sort(l)
	return l
}

// reach puts behind some states those others that this round has not reached yet.
func (m *maker) reach(l, others []int) []int {
	for _, s := range others {
		if m.reached[s] != m.round {
			m.reached[s] = m.round
			l = append(l, s)
		}
	}
	return l
}

// ruleOf is the least rule whose end is among states.
func (m *maker) ruleOf(states []int) int {
	return slices.IndexFunc(m.ends, func(end int) bool { return slices.Contains(states, end) })
}

// textOf tells states of the net, in two bytes each.
func textOf(states []int) string {
	b := make([]byte, 0, 2*len(states))
	for _, s := range states {
		b = append(b, byte(s>>8), byte(s))
	}
	return string(b)
}
