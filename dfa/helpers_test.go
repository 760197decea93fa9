package dfa_test

import (
	"slices"
	"testing"

	"incunable/api"
	"incunable/dfa"
	"incunable/nfa"
	"incunable/regex"
)

// mixer makes numbers that look like chance and are always the same.
type mixer uint64

func (m *mixer) next() uint32 {
	*m = *m*6364136223846793005 + 1442695040888963407
	return uint32(*m >> 32)
}

func (m *mixer) below(n int) int {
	return int(m.next() % uint32(n))
}

// text is bytes of some letters.
func (m *mixer) text(letters string, n int) []byte {
	b := make([]byte, n)
	for i := range b {
		b[i] = letters[m.below(len(letters))]
	}
	return b
}

// those are bytes as a set.
func those(l ...byte) (s api.Set) {
	for _, c := range l {
		s[c/64] |= 1 << (c % 64)
	}
	return s
}

func isIn(s api.Set, c byte) bool {
	return s[c/64]&(1<<(c%64)) != 0
}

func full() api.Set {
	return api.Set{^uint64(0), ^uint64(0), ^uint64(0), ^uint64(0)}
}

func free(from, to int) api.Edge {
	return api.Edge{From: from, To: to, Free: true}
}

func by(from, to int, l ...byte) api.Edge {
	return api.Edge{From: from, To: to, Set: those(l...)}
}

func byAll(from, to int) api.Edge {
	return api.Edge{From: from, To: to, Set: full()}
}

// parsed are patterns.
func parsed(t *testing.T, patterns ...string) []api.Rex {
	t.Helper()
	var l []api.Rex
	for _, p := range patterns {
		x, _, e := regex.Parse(p)
		if e != api.OK {
			t.Fatalf("Parse(%q): error %d", p, e)
		}
		l = append(l, x)
	}
	return l
}

// netOf is the net of patterns.
func netOf(t *testing.T, l []api.Rex) api.Nfa {
	t.Helper()
	n, e := nfa.Of(l)
	if e != api.OK {
		t.Fatalf("nfa.Of: error %d", e)
	}
	return n
}

// made is the machine of a net; it fails unless that is one, which may be.
func made(t *testing.T, n api.Nfa) api.Dfa {
	t.Helper()
	d, e := dfa.Of(n)
	if e != api.OK {
		t.Fatalf("Of: error %d", e)
	}
	if e := dfa.Check(d); e != api.OK {
		t.Fatalf("Check of %v: error %d", d, e)
	}
	return d
}

// stepped fails unless there is that state.
func stepped(t *testing.T, d api.Dfa, state int, c byte) int {
	t.Helper()
	to, e := dfa.Step(d, state, c)
	if e != api.OK {
		t.Fatalf("Step from %d: error %d", state, e)
	}
	return to
}

// ran fails unless that is a machine, and the text not too long.
func ran(t *testing.T, d api.Dfa, text string) int {
	t.Helper()
	rule, e := dfa.Run(d, []byte(text))
	if e != api.OK {
		t.Fatalf("Run: error %d", e)
	}
	return rule
}

// isRefused fails unless Check, and the calls that ask it ahead of all else, tell this error of a machine.
func isRefused(t *testing.T, d api.Dfa, want api.Errno) {
	t.Helper()
	if e := dfa.Check(d); e != want {
		t.Fatalf("Check: %d, want %d", e, want)
	}
	for _, state := range []int{0, -1, 1 << 40} {
		if to, e := dfa.Step(d, state, 'a'); e != want || to != 0 {
			t.Fatalf("Step: %d, %d, want %d", to, e, want)
		}
	}
	for _, length := range []int{0, 8193} {
		if rule, e := dfa.Run(d, make([]byte, length)); e != want || rule != 0 {
			t.Fatalf("Run: %d, %d, want %d", rule, e, want)
		}
	}
}

// isTooGreat fails unless Of tells that the machine of a net would have too many states.
func isTooGreat(t *testing.T, n api.Nfa) {
	t.Helper()
	if d, e := dfa.Of(n); e != api.ErrLimit || !sameMachine(d, api.Dfa{}) {
		t.Fatalf("Of: %d states, %d", len(d.Next), e)
	}
}

// sameMachine compares all of two machines; lists without elements are alike.
func sameMachine(a, b api.Dfa) bool {
	return a.Class == b.Class && slices.EqualFunc(a.Next, b.Next, slices.Equal) && slices.Equal(a.Rule, b.Rule)
}

// sameNet compares all of two nets; lists without elements are alike.
func sameNet(a, b api.Nfa) bool {
	return a.States == b.States && slices.Equal(a.Edges, b.Edges) && slices.Equal(a.Ends, b.Ends)
}

// copied is a machine of its own memory.
func copied(d api.Dfa) api.Dfa {
	d.Next, d.Rule = slices.Clone(d.Next), slices.Clone(d.Rule)
	for i, row := range d.Next {
		d.Next[i] = slices.Clone(row)
	}
	return d
}

// classes are bytes' classes: 0, but those of some letters 1, 2 and so on.
func classes(letters string) (l [256]int) {
	for i := range len(letters) {
		l[letters[i]] = i + 1
	}
	return l
}

// ownClasses are bytes' classes, each its own one.
func ownClasses() (l [256]int) {
	for c := range l {
		l[c] = c
	}
	return l
}

// net is one of so many states and edges, by few bytes.
func (m *mixer) net(states, edges, rules int) api.Nfa {
	n := api.Nfa{States: states}
	list := []api.Set{{}, those('a'), those('a'), those('b'), those('b', 'a'), those('c', 'a'), those('c', 255, 0), full()}
	for range edges {
		e := api.Edge{From: m.below(states), To: m.below(states), Free: m.below(3) == 0}
		if !e.Free {
			e.Set = list[m.below(len(list))]
		}
		n.Edges = append(n.Edges, e)
	}
	for range rules {
		n.Ends = append(n.Ends, m.below(states))
	}
	return n
}

// tree puts the nodes of a pattern behind others, of about so many at most, whose sets are of some letters.
func (m *mixer) tree(l []api.RNode, size int) []api.RNode {
	if size <= 1 {
		if m.below(5) == 0 {
			return append(l, api.RNode{Kind: api.RexNil})
		}
		list := []api.Set{those('a'), those('b'), those('a', 'b'), those('c'), full(), {}}
		return append(l, api.RNode{Kind: api.RexSet, Set: list[m.below(len(list))]})
	}
	kind := 3 + m.below(4)
	if kind == api.RexStar || kind == api.RexPlus {
		l = m.tree(l, size-1)
		return append(l, api.RNode{Kind: kind, A: len(l) - 1})
	}
	left := 1 + m.below(size)
	l = m.tree(l, left)
	a := len(l) - 1
	l = m.tree(l, size-left)
	return append(l, api.RNode{Kind: kind, A: a, B: len(l) - 1})
}

// patterns are some, so many.
func (m *mixer) patterns(n, size int) []api.Rex {
	var l []api.Rex
	for range n {
		l = append(l, api.Rex{L: m.tree(nil, 1+m.below(size))})
	}
	return l
}

// machine is one that may be, of so many states and classes.
func (m *mixer) machine(states, classes int) (d api.Dfa) {
	for c := range d.Class {
		d.Class[c] = m.below(classes)
	}
	for range states {
		row := make([]int, classes)
		for k := range row {
			row[k] = m.below(states+1) - 1
		}
		d.Next = append(d.Next, row)
		d.Rule = append(d.Rule, m.below(65)-1)
	}
	return d
}

// texts are all texts of up to so many of some letters.
func texts(letters string, most int) []string {
	l := []string{""}
	for from, n := 0, 0; n < most; n++ {
		to := len(l)
		for _, t := range l[from:to] {
			for i := range letters {
				l = append(l, t+letters[i:i+1])
			}
		}
		from = to
	}
	return l
}

// alike tells whether two bytes are of one class of a net.
func alike(n api.Nfa, a, b byte) bool {
	return !slices.ContainsFunc(n.Edges, func(e api.Edge) bool { return isIn(e.Set, a) != isIn(e.Set, b) })
}

// slowOf reads the words of machines as they stand, by nfa's calls; false, if there would be more than 512 states.
func slowOf(n api.Nfa) (d api.Dfa, is bool) {
	var leasts []byte
	for c := range 256 {
		k := slices.IndexFunc(leasts, func(least byte) bool { return alike(n, least, byte(c)) })
		if k < 0 {
			k = len(leasts)
			leasts = append(leasts, byte(c))
		}
		d.Class[c] = k
	}
	first, _ := nfa.Close(n, []int{0})
	states := [][]int{first}
	for s := 0; s < len(states) && len(states) <= 512; s++ {
		row := make([]int, len(leasts))
		for k, c := range leasts {
			l, _ := nfa.Step(n, states[s], c)
			l, _ = nfa.Close(n, l)
			if len(l) == 0 {
				row[k] = -1
				continue
			}
			row[k] = slices.IndexFunc(states, func(other []int) bool { return slices.Equal(l, other) })
			if row[k] < 0 {
				row[k] = len(states)
				states = append(states, l)
			}
		}
		d.Next = append(d.Next, row)
	}
	if len(states) > 512 {
		return api.Dfa{}, false
	}
	for _, l := range states {
		rule := len(n.Ends) - 1
		for rule >= 0 && !slices.Contains(l, n.Ends[rule]) {
			rule--
		}
		for r := rule - 1; r >= 0; r-- {
			if slices.Contains(l, n.Ends[r]) {
				rule = r
			}
		}
		d.Rule = append(d.Rule, rule)
	}
	return d, true
}
