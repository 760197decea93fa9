package dfa_test

import (
	"math"
	"slices"
	"testing"

	"incunable/api"
	"incunable/dfa"
)

// P11.1: as in the example.
func TestOfAsInTheExample(t *testing.T) {
	want := api.Dfa{Class: classes("ab"), Next: [][]int{{-1, 1, 2}, {-1, 1, -1}, {-1, -1, -1}}, Rule: []int{0, 0, 1}}
	if d := made(t, netOf(t, parsed(t, "a*", "b"))); !sameMachine(d, want) {
		t.Errorf("%v", d)
	}
}

// P11.1: nets that lead nowhere: of no pattern, of one state and no edges, of states that are never reached.
func TestOfNetsThatLeadNowhere(t *testing.T) {
	for _, c := range []struct {
		n    api.Nfa
		rule int
	}{
		{netOf(t, nil), -1},
		{api.Nfa{States: 1}, -1},
		{api.Nfa{States: 1, Ends: []int{0}}, 0},
		{api.Nfa{States: 1, Ends: []int{0, 0, 0}}, 0},
		{api.Nfa{States: 2048, Ends: []int{2047, 1, 0, 0}}, 2},
		{api.Nfa{States: 1, Edges: []api.Edge{free(0, 0), by(0, 0)}, Ends: []int{0}}, 0},
		{api.Nfa{States: 3, Edges: []api.Edge{byAll(1, 2), byAll(2, 0), free(2, 1)}, Ends: []int{1, 2}}, -1},
		{api.Nfa{States: 3, Edges: []api.Edge{by(0, 1), free(1, 2)}, Ends: []int{1, 2}}, -1},
		{api.Nfa{States: 3, Edges: []api.Edge{free(0, 2)}, Ends: []int{1, 2}}, 1},
	} {
		if d := made(t, c.n); !sameMachine(d, api.Dfa{Next: [][]int{{-1}}, Rule: []int{c.rule}}) {
			t.Errorf("%v: %v", c.n, d)
		}
	}
}

// P11.1: classes are numbered by their least bytes, whatever the order of edges, and whether these are ever gone along.
func TestClassesByTheirLeastBytes(t *testing.T) {
	for _, c := range []struct {
		edges []api.Edge
		many  int
		want  map[byte]int // of bytes that are not of the class 0
	}{
		{nil, 1, nil},
		{[]api.Edge{free(0, 1)}, 1, nil},
		{[]api.Edge{by(0, 1)}, 1, nil},
		{[]api.Edge{byAll(0, 1), byAll(1, 1), by(1, 0)}, 1, nil},
		{[]api.Edge{by(0, 1, 'z')}, 2, map[byte]int{'z': 1}},
		{[]api.Edge{by(1, 0, 'z'), by(1, 0, 'z'), byAll(0, 0)}, 2, map[byte]int{'z': 1}},
		{[]api.Edge{by(0, 1, 255)}, 2, map[byte]int{255: 1}},
		{[]api.Edge{{From: 0, To: 1, Set: api.Set{^uint64(1), ^uint64(0), ^uint64(0), ^uint64(0) >> 1}}}, 2, func() map[byte]int {
			l := map[byte]int{}
			for c := 1; c < 255; c++ {
				l[byte(c)] = 1
			}
			return l
		}()},
		{[]api.Edge{by(0, 1, 'z'), by(0, 1, 'a')}, 3, map[byte]int{'a': 1, 'z': 2}},
		{[]api.Edge{by(0, 1, 'a', 'z'), by(0, 1, 'z', 'm')}, 4, map[byte]int{'a': 1, 'm': 2, 'z': 3}},
		{[]api.Edge{by(0, 1, 9, 'c'), by(0, 1, 5, 'b'), by(0, 1, 200, 9)}, 5, map[byte]int{5: 1, 'b': 1, 9: 2, 'c': 3, 200: 4}},
		{[]api.Edge{by(0, 1, 'b', 'c', 'd'), by(0, 1, 'a', 'b', 'c'), by(0, 0, 'c')}, 5, map[byte]int{'a': 1, 'b': 2, 'c': 3, 'd': 4}},
	} {
		d := made(t, api.Nfa{States: 2, Edges: c.edges})
		for b := range 256 {
			if d.Class[b] != c.want[byte(b)] {
				t.Errorf("%v: the class of %d is %d", c.edges, b, d.Class[b])
			}
		}
		for _, row := range d.Next {
			if len(row) != c.many {
				t.Errorf("%v: %d classes", c.edges, len(row))
			}
		}
	}
}

// P11.1: byte 0 is of the class 0, also if edges are by it.
func TestTheClassOfTheByteNought(t *testing.T) {
	d := made(t, api.Nfa{States: 2, Edges: []api.Edge{by(0, 1, 'a'), by(0, 1, 0, 7)}, Ends: []int{1}})
	want := api.Dfa{Next: [][]int{{1, -1, 1}, {-1, -1, -1}}, Rule: []int{-1, 0}}
	for c := range 256 {
		want.Class[c] = 1
	}
	want.Class[0], want.Class[7], want.Class['a'] = 0, 0, 2
	if !sameMachine(d, want) {
		t.Errorf("%v", d)
	}
}

// P11.1: 256 classes: by an edge a byte, and by eight edges, one of each bit of a byte.
func TestAClassOfEachByte(t *testing.T) {
	alone, bits := api.Nfa{States: 257}, api.Nfa{States: 9}
	for c := 255; c >= 0; c-- {
		alone.Edges = append(alone.Edges, by(0, 256-c, byte(c)))
	}
	for i := range 8 {
		e := api.Edge{To: i + 1}
		for c := range 256 {
			if c>>i&1 == 1 {
				s := those(byte(c))
				e.Set[c/64] |= s[c/64]
			}
		}
		bits.Edges = append(bits.Edges, e)
	}
	d := made(t, alone)
	if d.Class != ownClasses() || len(d.Next) != 257 {
		t.Errorf("%v", d)
	}
	for c, to := range d.Next[0] {
		if to != c+1 {
			t.Errorf("behind %d: %d", c, to)
		}
	}
	if d = made(t, bits); d.Class != ownClasses() || len(d.Next) != 256 {
		t.Errorf("%v", d)
	}
	for c, to := range d.Next[0] {
		if c == 0 && to != -1 || c > 0 && to != c {
			t.Errorf("behind %d: %d", c, to)
		}
	}
}

// P11.1: states are numbered in the order in which they are found: state by state, and class by class, not byte by byte, nor edge by edge.
func TestStatesInTheOrderInWhichTheyAreFound(t *testing.T) {
	n := api.Nfa{
		States: 7,
		Edges:  []api.Edge{by(0, 6, 'c'), by(0, 5, 'b'), by(0, 1, 'a', 'd'), by(5, 2, 'a'), by(1, 3, 'c'), by(1, 4, 'b'), by(6, 5, 'a'), by(4, 0, 'd')},
		Ends:   []int{0, 1, 2, 3, 4, 5, 6},
	}
	want := api.Dfa{
		Class: classes("abcd"),
		Next: [][]int{
			{-1, 1, 2, 3, 1},      // 0
			{-1, -1, 4, 5, -1},    // 1
			{-1, 6, -1, -1, -1},   // 5
			{-1, 2, -1, -1, -1},   // 6
			{-1, -1, -1, -1, 0},   // 4
			{-1, -1, -1, -1, -1},  // 3
			{-1, -1, -1, -1, -1}}, // 2
		Rule: []int{0, 1, 5, 6, 4, 3, 2},
	}
	if d := made(t, n); !sameMachine(d, want) {
		t.Errorf("%v", d)
	}
	slices.Reverse(n.Edges)
	if d := made(t, n); !sameMachine(d, want) {
		t.Errorf("edges the other way round: %v", d)
	}
}

// P11.1: a state is some of the net's, and they are told by all of them: not by their order, nor by how they are come by.
func TestAStateIsSomeOfTheNets(t *testing.T) {
	n := api.Nfa{
		States: 6,
		Edges:  []api.Edge{by(0, 1, 'a'), by(0, 2, 'a'), by(0, 2, 'b'), by(0, 1, 'b'), by(0, 1, 'b'), by(0, 1, 'c'), by(0, 3, 'd'), free(3, 2), by(0, 4, 'e'), free(4, 3), by(0, 3, 'f'), by(0, 4, 'f'), by(0, 2, 'f')},
	}
	want := api.Dfa{
		Class: classes("abcdef"),
		Next:  [][]int{{-1, 1, 1, 2, 3, 4, 4}, {-1, -1, -1, -1, -1, -1, -1}, {-1, -1, -1, -1, -1, -1, -1}, {-1, -1, -1, -1, -1, -1, -1}, {-1, -1, -1, -1, -1, -1, -1}},
		Rule:  []int{-1, -1, -1, -1, -1},
	}
	if d := made(t, n); !sameMachine(d, want) {
		t.Errorf("%v", d)
	}
}

// P11.1: states of nets with numbers of all sizes are told apart.
func TestStatesOfGreatNumbers(t *testing.T) {
	n := api.Nfa{States: 2048}
	for i, to := range []int{1, 255, 256, 257, 511, 512, 1023, 1024, 1025, 1281, 2046, 2047} {
		n.Edges = append(n.Edges, by(0, to, byte(i)))
		n.Ends = append(n.Ends, to)
	}
	d := made(t, n)
	if len(d.Next) != 13 {
		t.Fatalf("%d states", len(d.Next))
	}
	for i := range 12 {
		if d.Next[0][i] != i+1 || d.Rule[i+1] != i {
			t.Errorf("behind %d: %d, of the rule %d", i, d.Next[0][i], d.Rule[i+1])
		}
	}
	// Two of the net's and one of it are not alike, whatever their bytes.
	n = api.Nfa{States: 2048, Edges: []api.Edge{by(0, 1, 'a'), by(0, 2, 'a'), by(0, 258, 'b'), by(0, 513, 'c'), by(0, 1, 'd'), by(0, 1, 'e'), by(0, 258, 'e')}}
	if d := made(t, n); !slices.Equal(d.Next[0], []int{-1, 1, 2, 3, 4, 5}) {
		t.Errorf("%v", d.Next)
	}
}

// P11.1: a state's rule is the least whose end is in it: of rules that share an end, and of those that end in one state; not by their ends' numbers.
func TestTheLeastRule(t *testing.T) {
	edges := []api.Edge{by(0, 1, 'a', 'b'), by(0, 2, 'b', 'c'), free(1, 3)}
	for _, c := range []struct{ ends, want []int }{
		{nil, []int{-1, -1, -1, -1}},
		{[]int{0}, []int{0, -1, -1, -1}},
		{[]int{4}, []int{-1, -1, -1, -1}},
		{[]int{1, 2}, []int{-1, 0, 0, 1}},
		{[]int{2, 1}, []int{-1, 1, 0, 0}},
		{[]int{3, 2}, []int{-1, 0, 0, 1}},
		{[]int{4, 2, 3}, []int{-1, 2, 1, 1}},
		{[]int{4, 0, 1, 1, 1, 2, 2, 0}, []int{1, 2, 2, 5}},
		{[]int{2, 2, 1, 1}, []int{-1, 2, 0, 0}},
		{append(slices.Repeat([]int{4}, 63), 3), []int{-1, 63, 63, -1}},
		{slices.Repeat([]int{2}, 64), []int{-1, -1, 0, 0}},
	} {
		d := made(t, api.Nfa{States: 5, Edges: edges, Ends: c.ends})
		if !slices.Equal(d.Rule, c.want) || d.Class != classes("abc") || !slices.Equal(d.Next[0], []int{-1, 1, 2, 3}) {
			t.Errorf("%v: %v", c.ends, d)
		}
	}
	for _, c := range []struct {
		patterns []string
		want     int
	}{{[]string{"ab", "a[a-z]"}, 0}, {[]string{"a[a-z]", "ab"}, 0}, {[]string{"x", "ab", "ab", "ab"}, 1}} {
		if rule := ran(t, made(t, netOf(t, parsed(t, c.patterns...))), "ab"); rule != c.want {
			t.Errorf("%q: %d", c.patterns, rule)
		}
	}
}

// P11.1: free edges that lead around in a ring, through the beginning too, of few states and of all that there may be.
func TestOfRings(t *testing.T) {
	for _, states := range []int{1, 2, 3, 100, 2048} {
		n := api.Nfa{States: states, Ends: []int{states - 1}}
		for i := range states {
			n.Edges = append(n.Edges, free(i, (i+1)%states))
		}
		if d := made(t, n); !sameMachine(d, api.Dfa{Next: [][]int{{-1}}, Rule: []int{0}}) {
			t.Errorf("%d states: %v", states, d)
		}
		n.Edges = append(n.Edges, by(states/2, states/3, 'x'))
		if d := made(t, n); !sameMachine(d, api.Dfa{Class: classes("x"), Next: [][]int{{-1, 0}}, Rule: []int{0}}) {
			t.Errorf("%d states and a byte: %v", states, d)
		}
	}
	n := api.Nfa{States: 5, Edges: []api.Edge{by(0, 2, 'a'), free(1, 2), free(2, 3), free(3, 1), by(1, 4, 'b'), by(0, 3, 'b'), free(4, 4)}, Ends: []int{4, 1}}
	want := api.Dfa{Class: classes("ab"), Next: [][]int{{-1, 1, 1}, {-1, -1, 2}, {-1, -1, -1}}, Rule: []int{-1, 1, 0}}
	if d := made(t, n); !sameMachine(d, want) {
		t.Errorf("%v", d)
	}
}

// chain is a net of so many states, one behind the other, each by all bytes.
func chain(states int) api.Nfa {
	n := api.Nfa{States: states, Ends: []int{states - 1}}
	for i := range states - 1 {
		n.Edges = append(n.Edges, byAll(i, i+1))
	}
	return n
}

// lastLetters is a net whose machine knows which of so many last letters were an a.
func lastLetters(n int) api.Nfa {
	l := api.Nfa{States: n + 1, Edges: []api.Edge{by(0, 0, 'a', 'b'), by(0, 1, 'a')}, Ends: []int{n}}
	for i := 1; i < n; i++ {
		l.Edges = append(l.Edges, by(i, i+1, 'a', 'b'))
	}
	return l
}

// P11.1: machines of 512 states, and what would be more.
func TestHowManyStatesOfANet(t *testing.T) {
	for _, states := range []int{511, 512} {
		d := made(t, chain(states))
		for s, row := range d.Next {
			to, rule := s+1, -1
			if s == states-1 {
				to, rule = -1, 0
			}
			if !slices.Equal(row, []int{to}) || d.Rule[s] != rule {
				t.Fatalf("%d: %v, of the rule %d", s, row, d.Rule[s])
			}
		}
		if len(d.Next) != states {
			t.Errorf("%d states", len(d.Next))
		}
	}
	for _, states := range []int{513, 514, 1024, 2048} {
		isTooGreat(t, chain(states))
	}
	for n, want := range map[int]int{1: 2, 2: 4, 8: 256, 9: 512} {
		if d := made(t, lastLetters(n)); len(d.Next) != want {
			t.Errorf("%d letters: %d states", n, len(d.Next))
		}
	}
	for _, n := range []int{10, 11, 20, 2047} {
		isTooGreat(t, lastLetters(n))
	}
}

// fan is a net from whose beginning so many states are reached, each by a byte of its own, and from the last of them so many others.
func fan(first, second int) api.Nfa {
	n := api.Nfa{States: 1 + first + second}
	for i := range first {
		n.Edges = append(n.Edges, by(0, 1+i, byte(i)))
	}
	for i := range second {
		n.Edges = append(n.Edges, by(first, 1+first+i, byte(i)))
	}
	return n
}

// P11.1: the 513th state is one too many, also if it is found with the one ahead, from the last state, or from one far ahead.
func TestOneStateTooMany(t *testing.T) {
	if d := made(t, fan(255, 256)); len(d.Next) != 512 {
		t.Errorf("%d states", len(d.Next))
	}
	if d := made(t, fan(256, 255)); len(d.Next) != 512 {
		t.Errorf("%d states", len(d.Next))
	}
	isTooGreat(t, fan(256, 256))
	last := chain(512)
	last.States = 513
	last.Edges = append(last.Edges, by(511, 512, 'x'))
	isTooGreat(t, last)
	last.Edges[511].To = 0
	if d := made(t, last); len(d.Next) != 512 || d.Next[511][d.Class['x']] != 0 {
		t.Errorf("%d states", len(d.Next))
	}
	early := chain(512)
	early.States = 513
	early.Edges = append(early.Edges, by(0, 512, 'x'))
	isTooGreat(t, early)
}

// P11.1: what may not be made is told ahead of the time that it would take.
func TestManyStatesAreNotWaitedFor(t *testing.T) {
	n := api.Nfa{States: 2048}
	for i := range 2047 {
		n.Edges = append(n.Edges, byAll(i, i+1), by(i, 0, 'a'), by(i, i, 'b', 'c'))
	}
	isTooGreat(t, n)
}

// P11.1: nets that may not be: nfa.Check's error.
func TestOfNetsThatMayNotBe(t *testing.T) {
	for i, c := range []struct {
		n    api.Nfa
		want api.Errno
	}{
		{api.Nfa{}, api.ErrArg},
		{api.Nfa{States: -1}, api.ErrArg},
		{api.Nfa{States: math.MinInt}, api.ErrArg},
		{api.Nfa{States: 2049}, api.ErrLimit},
		{api.Nfa{States: math.MaxInt}, api.ErrLimit},
		{api.Nfa{States: 1, Edges: make([]api.Edge, 8193)}, api.ErrLimit},
		{api.Nfa{States: 1, Ends: make([]int, 65)}, api.ErrLimit},
		{api.Nfa{States: 2, Edges: []api.Edge{free(0, 2)}}, api.ErrArg},
		{api.Nfa{States: 2, Edges: []api.Edge{free(-1, 0)}}, api.ErrArg},
		{api.Nfa{States: 2, Edges: []api.Edge{{Set: those('a'), Free: true}}}, api.ErrArg},
		{api.Nfa{States: 2, Ends: []int{2}}, api.ErrArg},
		{api.Nfa{States: 2, Ends: []int{-1}}, api.ErrArg},
		{api.Nfa{Edges: make([]api.Edge, 8193), Ends: []int{-1}}, api.ErrLimit},
	} {
		if d, e := dfa.Of(c.n); e != c.want || !sameMachine(d, api.Dfa{}) {
			t.Errorf("%d: %v, %d, want %d", i, d, e, c.want)
		}
	}
	wrong := chain(2048)
	wrong.Ends[0] = 2048
	if _, e := dfa.Of(wrong); e != api.ErrArg {
		t.Errorf("%d", e)
	}
}

// P11.1: nets of all sorts, held against the words.
func TestOfNets(t *testing.T) {
	m := mixer(1)
	sizes := map[int]int{}
	for i := range 4000 {
		n := m.net(1+m.below(1+i/200), m.below(1+i/60), m.below(5))
		want, is := slowOf(n)
		if !is {
			isTooGreat(t, n)
			continue
		}
		d := made(t, n)
		if !sameMachine(d, want) {
			t.Fatalf("%v: %v, want %v", n, d, want)
		}
		sizes[min(len(d.Next), 9)]++
	}
	for size := 1; size <= 9; size++ {
		if sizes[size] < 30 {
			t.Errorf("of %d states: %d", size, sizes[size])
		}
	}
}

// P11.1: nets of patterns of all sorts, held against the words.
func TestOfPatterns(t *testing.T) {
	m := mixer(2)
	great := 0
	for i := range 600 {
		n := netOf(t, m.patterns(m.below(6), 2+i/30))
		want, is := slowOf(n)
		if !is {
			isTooGreat(t, n)
			continue
		}
		d := made(t, n)
		if !sameMachine(d, want) {
			t.Fatalf("%v: %v, want %v", n, d, want)
		}
		if len(d.Next) > 30 {
			great++
		}
	}
	if great < 20 {
		t.Errorf("%d great ones", great)
	}
}

// P11.1: all nets of two states and two edges, held against the words.
func TestOfAllSmallNets(t *testing.T) {
	var edges []api.Edge
	for from := range 2 {
		for to := range 2 {
			edges = append(edges, free(from, to), by(from, to), by(from, to, 'a'), by(from, to, 'b'), by(from, to, 'a', 'b'), byAll(from, to))
		}
	}
	for _, a := range edges {
		for _, b := range edges {
			for _, ends := range [][]int{nil, {1}, {1, 0}} {
				n := api.Nfa{States: 2, Edges: []api.Edge{a, b}, Ends: ends}
				want, _ := slowOf(n)
				if d := made(t, n); !sameMachine(d, want) {
					t.Fatalf("%v: %v, want %v", n, d, want)
				}
			}
		}
	}
}

// P11.1: the greatest nets, whose states are all reached at each byte, or by very many edges.
func TestOfTheGreatest(t *testing.T) {
	n := api.Nfa{States: 2048, Ends: slices.Repeat([]int{2047}, 64)}
	for i := range 2048 {
		n.Edges = append(n.Edges, free(i, (i+1)%2048), by(i, (i+7)%2048, 'a'), by(i, (i*5)%2048, 'a', 'b'), by(i, i, byte(i)))
	}
	d := made(t, n)
	if len(d.Next) != 1 || d.Class != ownClasses() || slices.ContainsFunc(d.Next[0], func(to int) bool { return to != 0 }) || d.Rule[0] != 0 {
		t.Errorf("%v", d)
	}
	m := mixer(3)
	isTooGreat(t, m.net(2048, 8192, 64))
	n = m.net(2048, 8192, 64)
	want, _ := slowOf(n)
	if d := made(t, n); len(d.Next) != 351 || !sameMachine(d, want) {
		t.Errorf("%d states, want %d", len(d.Next), len(want.Next))
	}
}
