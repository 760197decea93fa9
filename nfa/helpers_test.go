package nfa_test

import (
	"slices"
	"strings"
	"testing"

	"incunable/api"
	"incunable/nfa"
	"incunable/regex"
)

// mixer makes numbers that look like chance and are always the same.
type mixer uint64

func (m *mixer) next() uint32 {
	*m = *m*6364136223846793005 + 1442695040888963407
	return uint32(*m >> 32)
}

func (m *mixer) below(n int) int {
	return int(m.next() % uint32(n))
}

// text is bytes of some letters.
func (m *mixer) text(letters string, n int) []byte {
	b := make([]byte, n)
	for i := range b {
		b[i] = letters[m.below(len(letters))]
	}
	return b
}

// those are bytes as a set.
func those(l ...byte) (s api.Set) {
	for _, c := range l {
		s[c/64] |= 1 << (c % 64)
	}
	return s
}

func isIn(s api.Set, c byte) bool {
	return s[c/64]&(1<<(c%64)) != 0
}

func full() api.Set {
	return api.Set{^uint64(0), ^uint64(0), ^uint64(0), ^uint64(0)}
}

func free(from, to int) api.Edge {
	return api.Edge{From: from, To: to, Free: true}
}

func by(from, to int, l ...byte) api.Edge {
	return api.Edge{From: from, To: to, Set: those(l...)}
}

// states are the numbers from 0 on, so many.
func states(n int) []int {
	l := make([]int, n)
	for i := range l {
		l[i] = i
	}
	return l
}

// parsed are patterns.
func parsed(t *testing.T, patterns ...string) []api.Rex {
	t.Helper()
	var l []api.Rex
	for _, p := range patterns {
		x, _, e := regex.Parse(p)
		if e != api.OK {
			t.Fatalf("Parse(%q): error %d", p, e)
		}
		l = append(l, x)
	}
	return l
}

// made is the net of patterns.
func made(t *testing.T, l []api.Rex) api.Nfa {
	t.Helper()
	n, e := nfa.Of(l)
	if e != api.OK {
		t.Fatalf("Of: error %d", e)
	}
	return n
}

// netOf is the net of patterns as they are written.
func netOf(t *testing.T, patterns ...string) api.Nfa {
	t.Helper()
	return made(t, parsed(t, patterns...))
}

// sameNet compares all of two nets; lists without elements are alike.
func sameNet(a, b api.Nfa) bool {
	return a.States == b.States && slices.Equal(a.Edges, b.Edges) && slices.Equal(a.Ends, b.Ends)
}

// isNothing tells whether a net is a zero one.
func isNothing(n api.Nfa) bool {
	return sameNet(n, api.Nfa{})
}

// copied is a net of its own memory.
func copied(n api.Nfa) api.Nfa {
	return api.Nfa{States: n.States, Edges: slices.Clone(n.Edges), Ends: slices.Clone(n.Ends)}
}

// closed fails unless these are states.
func closed(t *testing.T, n api.Nfa, l ...int) []int {
	t.Helper()
	out, e := nfa.Close(n, l)
	if e != api.OK {
		t.Fatalf("Close of %v: error %d", l, e)
	}
	return out
}

// stepped fails unless these are states.
func stepped(t *testing.T, n api.Nfa, c byte, l ...int) []int {
	t.Helper()
	out, e := nfa.Step(n, l, c)
	if e != api.OK {
		t.Fatalf("Step of %v: error %d", l, e)
	}
	return out
}

// ran fails unless that is a net, and the text not too long.
func ran(t *testing.T, n api.Nfa, text string) int {
	t.Helper()
	rule, e := nfa.Run(n, []byte(text))
	if e != api.OK {
		t.Fatalf("Run: error %d", e)
	}
	return rule
}

// isRefused fails unless Check, and the calls that ask it, tell this error of a net.
func isRefused(t *testing.T, n api.Nfa, want api.Errno) {
	t.Helper()
	if e := nfa.Check(n); e != want {
		t.Fatalf("Check: %d, want %d", e, want)
	}
	for _, l := range [][]int{nil, {0}, {-1}, {1 << 40}} {
		if out, e := nfa.Close(n, l); e != want || len(out) > 0 {
			t.Fatalf("Close: %v, %d, want %d", out, e, want)
		}
		if out, e := nfa.Step(n, l, 'a'); e != want || len(out) > 0 {
			t.Fatalf("Step: %v, %d, want %d", out, e, want)
		}
	}
	for _, length := range []int{0, 8193} {
		if rule, e := nfa.Run(n, make([]byte, length)); e != want || rule != 0 {
			t.Fatalf("Run: %d, %d, want %d", rule, e, want)
		}
	}
}

// net is one of so many states and edges, by few bytes.
func (m *mixer) net(states, edges, rules int) api.Nfa {
	n := api.Nfa{States: states}
	list := []api.Set{{}, those('a'), those('a'), those('b'), those('a', 'b'), those('a', 'c'), full()}
	for range edges {
		e := api.Edge{From: m.below(states), To: m.below(states), Free: m.below(3) == 0}
		if !e.Free {
			e.Set = list[m.below(len(list))]
		}
		n.Edges = append(n.Edges, e)
	}
	for range rules {
		n.Ends = append(n.Ends, m.below(states))
	}
	return n
}

// some are states of a net, in any order, some of them more than once.
func (m *mixer) some(n api.Nfa, most int) []int {
	var l []int
	for range m.below(most + 1) {
		l = append(l, m.below(n.States))
	}
	return l
}

// tree puts the nodes of a pattern behind others, of about so many at most, whose sets are of some letters.
func (m *mixer) tree(l []api.RNode, size int) []api.RNode {
	if size <= 1 {
		if m.below(5) == 0 {
			return append(l, api.RNode{Kind: api.RexNil})
		}
		list := []api.Set{those('a'), those('b'), those('a', 'b'), those('c'), full(), {}}
		return append(l, api.RNode{Kind: api.RexSet, Set: list[m.below(len(list))]})
	}
	kind := 3 + m.below(4)
	if kind == api.RexStar || kind == api.RexPlus {
		l = m.tree(l, size-1)
		return append(l, api.RNode{Kind: kind, A: len(l) - 1})
	}
	left := 1 + m.below(size)
	base := l
	l = m.tree(base, left)
	a := len(l) - 1
	l = m.tree(l, size-left)
	return append(l, api.RNode{Kind: kind, A: a, B: len(l) - 1})
}

// patterns are some, so many.
func (m *mixer) patterns(n, size int) []api.Rex {
	var l []api.Rex
	for range n {
		l = append(l, api.Rex{L: m.tree(nil, 1+m.below(size))})
	}
	return l
}

// texts are all texts of up to so many of some letters.
func texts(letters string, most int) []string {
	l := []string{""}
	for from, n := 0, 0; n < most; n++ {
		to := len(l)
		for _, t := range l[from:to] {
			for i := range letters {
				l = append(l, t+letters[i:i+1])
			}
		}
		from = to
	}
	return l
}

// What stands here reads the words of nets as they stand: states as flags, edges gone over until nothing is new.

// flags tells of each state of a net whether it is in a list.
func flags(n api.Nfa, l []int) []bool {
	f := make([]bool, n.States)
	for _, s := range l {
		f[s] = true
	}
	return f
}

// listed are the flagged states, rising.
func listed(f []bool) (l []int) {
	for s, is := range f {
		if is {
			l = append(l, s)
		}
	}
	return l
}

func slowClose(n api.Nfa, l []int) []int {
	f := flags(n, l)
	for more := true; more; {
		more = false
		for _, e := range n.Edges {
			if e.Free && f[e.From] && !f[e.To] {
				f[e.To], more = true, true
			}
		}
	}
	return listed(f)
}

func slowStep(n api.Nfa, l []int, c byte) []int {
	from, to := flags(n, l), make([]bool, n.States)
	for _, e := range n.Edges {
		if from[e.From] && !e.Free && isIn(e.Set, c) {
			to[e.To] = true
		}
	}
	return listed(to)
}

func slowRun(n api.Nfa, text string) int {
	l := slowClose(n, []int{0})
	for i := range len(text) {
		l = slowClose(n, slowStep(n, l, text[i]))
	}
	for rule, end := range n.Ends {
		if slices.Contains(l, end) {
			return rule
		}
	}
	return -1
}

// slowOf is the net of patterns, whose edges are told by words: the letters i, o are the node's in and out, A, a those of A, B, b those of B.
func slowOf(l []api.Rex) api.Nfa {
	words := map[int]string{
		api.RexNil:  "io",
		api.RexSet:  "io",
		api.RexSeq:  "iA aB bo",
		api.RexAlt:  "iA iB ao bo",
		api.RexStar: "io iA aA ao",
		api.RexPlus: "iA aA ao",
	}
	n := api.Nfa{States: 1}
	for _, x := range l {
		ins := make([]int, len(x.L))
		for place, node := range x.L {
			ins[place] = n.States
			n.States += 2
			at := map[byte]int{'i': ins[place], 'o': ins[place] + 1, 'A': ins[node.A], 'a': ins[node.A] + 1, 'B': ins[node.B], 'b': ins[node.B] + 1}
			for _, w := range strings.Fields(words[node.Kind]) {
				e := api.Edge{From: at[w[0]], To: at[w[1]], Free: true}
				if node.Kind == api.RexSet {
					e.Free, e.Set = false, node.Set
				}
				n.Edges = append(n.Edges, e)
			}
		}
		n.Edges = append(n.Edges, free(0, n.States-2))
		n.Ends = append(n.Ends, n.States-1)
	}
	return n
}
