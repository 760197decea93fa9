package nfa_test

import (
	"bytes"
	"math"
	"slices"
	"testing"

	"incunable/api"
	"incunable/nfa"
)

// P10.3: patterns are only read, what stands around them and their spare room too, and have no say there.
func TestPatternsAreOnlyRead(t *testing.T) {
	m := mixer(11)
	odd := api.RNode{Kind: 99, Set: full(), A: -7, B: 1 << 40}
	for range 300 {
		l := m.patterns(1+m.below(5), 20)
		want := slowOf(l)
		rooms := make([][]api.RNode, len(l))
		was := make([][]api.RNode, len(l))
		for i, x := range l {
			rooms[i] = slices.Concat([]api.RNode{odd, odd}, x.L, slices.Repeat([]api.RNode{odd}, 9))
			was[i] = slices.Clone(rooms[i])
			l[i].L = rooms[i][2 : 2+len(x.L)]
		}
		list := append(slices.Clone(l), api.Rex{L: []api.RNode{odd}})
		n, e := nfa.Of(list[:len(l)])
		if e != api.OK || !sameNet(n, want) {
			t.Fatalf("%v: %v, %d", l, n, e)
		}
		for i := range l {
			if !slices.Equal(rooms[i], was[i]) || &list[i].L[0] != &l[i].L[0] || len(list[i].L) != len(l[i].L) {
				t.Fatalf("%v was changed", was[i])
			}
		}
		if len(list[len(l)].L) != 1 || list[len(l)].L[0] != odd {
			t.Fatal("the spare room was changed")
		}
		for _, r := range rooms {
			for i := range r {
				r[i] = odd
			}
		}
		if !sameNet(n, want) {
			t.Fatal("nodes were kept")
		}
	}
}

// roomy is a net with spare room behind its lists, in which stands what may not be.
func roomy(n api.Nfa) api.Nfa {
	edges := append(slices.Clone(n.Edges), slices.Repeat([]api.Edge{{From: -1, To: 1 << 40, Set: full(), Free: true}}, 20)...)
	ends := append(slices.Clone(n.Ends), slices.Repeat([]int{-1}, 20)...)
	return api.Nfa{States: n.States, Edges: edges[:len(n.Edges)], Ends: ends[:len(n.Ends)]}
}

// wholeOf is a net with its spare room.
func wholeOf(n api.Nfa) api.Nfa {
	return api.Nfa{States: n.States, Edges: n.Edges[:cap(n.Edges)], Ends: n.Ends[:cap(n.Ends)]}
}

// P10.3: nets, states and texts are only read, their spare room too.
func TestNetsAreOnlyRead(t *testing.T) {
	m := mixer(12)
	for range 500 {
		plain := m.net(1+m.below(20), m.below(40), m.below(4))
		n := roomy(plain)
		was := copied(wholeOf(n))
		room := append(m.some(n, 9), -1, 1<<40, -1)
		l := room[: len(room)-3 : len(room)]
		wasRoom := slices.Clone(room)
		text := append(m.text("ab", m.below(9)), "behind"...)
		wasText := bytes.Clone(text)
		e := nfa.Check(n)
		a, ofClose := nfa.Close(n, l)
		b, ofStep := nfa.Step(n, l, 'a')
		rule, ofRun := nfa.Run(n, text[:len(text)-6])
		if e != api.OK || ofClose != api.OK || ofStep != api.OK || ofRun != api.OK {
			t.Fatalf("errors %d, %d, %d, %d", e, ofClose, ofStep, ofRun)
		}
		if !sameNet(wholeOf(n), was) || !slices.Equal(room, wasRoom) || !bytes.Equal(text, wasText) {
			t.Fatalf("%v, %v, %q were changed", plain, l, text)
		}
		if !slices.Equal(a, closed(t, plain, wasRoom[:len(l)]...)) || !slices.Equal(b, stepped(t, plain, 'a', wasRoom[:len(l)]...)) || rule != ran(t, plain, string(text[:len(text)-6])) {
			t.Fatal("what stands around it had a say")
		}
	}
}

// P10.3: what may not be is only read, too.
func TestWhatMayNotBeIsOnlyRead(t *testing.T) {
	m := mixer(13)
	for range 2000 {
		n := m.junk(m.below(5), m.below(4))
		was := copied(n)
		nfa.Check(n)
		nfa.Close(n, []int{3, 1})
		nfa.Step(n, []int{3, 1}, 'a')
		nfa.Run(n, []byte("ab"))
		if !sameNet(n, was) {
			t.Fatalf("%v became %v", was, n)
		}
	}
}

// P10.3: answers of Close and Step share no memory with states handed in, nor with each other, nor their spare room.
func TestStatesAreNewMemory(t *testing.T) {
	m := mixer(14)
	for range 500 {
		n := m.net(1+m.below(20), m.below(40), 0)
		l := append(make([]int, 0, 100), m.some(n, 9)...)
		slices.Sort(l)
		l = slices.Compact(l)
		was := slices.Clone(l)
		calls := []func() []int{
			func() []int { return closed(t, n, l...) },
			func() []int { return stepped(t, n, 'a', l...) },
		}
		for _, call := range calls {
			a, b := call(), call()
			wasB := slices.Clone(b)
			for i := range a[:cap(a)] {
				a[:cap(a)][i] = -9
			}
			if !slices.Equal(b, wasB) || !slices.Equal(l, was) || !slices.Equal(call(), wasB) {
				t.Fatalf("%v: %v, then %v", n, wasB, b)
			}
		}
	}
}

// P10.3: two answers of Of share no memory, nor their spare room.
func TestNetsAreNewMemory(t *testing.T) {
	m := mixer(15)
	for range 200 {
		l := m.patterns(m.below(5), 20)
		a, b := made(t, l), made(t, l)
		was := copied(b)
		whole := wholeOf(a)
		for i := range whole.Edges {
			whole.Edges[i] = api.Edge{From: -1, To: -1, Set: full()}
		}
		for i := range whole.Ends {
			whole.Ends[i] = -1
		}
		if !sameNet(b, was) || !sameNet(made(t, l), was) {
			t.Fatalf("%v became %v", was, b)
		}
	}
}

// junk is a net of numbers of all sorts, some of which may be.
func (m *mixer) junk(edges, rules int) api.Nfa {
	numbers := []int{0, 0, 1, 1, 2, 3, 4, 5, -1, -2, 63, 64, 65, 2047, 2048, 2049, math.MaxInt, math.MinInt, math.MaxInt32, math.MinInt32, 1 << 40}
	sets := []api.Set{{}, {}, {}, full(), those('a')}
	number := func() int {
		if m.below(3) > 0 {
			return m.below(4)
		}
		return numbers[m.below(len(numbers))]
	}
	n := api.Nfa{States: numbers[m.below(len(numbers))]}
	if m.below(2) == 0 {
		n.States = 4
	}
	for range edges {
		n.Edges = append(n.Edges, api.Edge{From: number(), To: number(), Set: sets[m.below(len(sets))], Free: m.below(2) == 0})
	}
	for range rules {
		n.Ends = append(n.Ends, number())
	}
	return n
}

// R1: no call panics, or goes on for ever, whatever it is handed.
func TestNoCallPanics(t *testing.T) {
	m := mixer(16)
	lists := [][]int{nil, {}, {0}, {-1}, {3, 3, 1}, {math.MaxInt}, {math.MinInt}, states(2048), states(5000), make([]int, 100000)}
	texts := [][]byte{nil, {}, []byte("a"), m.text("ab", 100), make([]byte, 8192), make([]byte, 8193)}
	fine := 0
	ask := func(n api.Nfa) {
		e := nfa.Check(n)
		if e == api.OK {
			fine++
		}
		l := lists[m.below(len(lists))]
		a, ofClose := nfa.Close(n, l)
		b, ofStep := nfa.Step(n, l, byte(m.next()))
		rule, ofRun := nfa.Run(n, texts[m.below(len(texts))])
		if e != api.OK && (ofClose != e || ofStep != e || ofRun != e || len(a)+len(b)+rule != 0) {
			t.Fatalf("%v: Check %d, then %d, %d, %d", n, e, ofClose, ofStep, ofRun)
		}
		if ofClose != ofStep || ofClose != api.OK && len(a)+len(b) > 0 || ofRun != api.OK && rule != 0 {
			t.Fatalf("%v: %v, %d; %v, %d; %d, %d", n, a, ofClose, b, ofStep, rule, ofRun)
		}
	}
	for range 20000 {
		ask(m.junk(m.below(6), m.below(4)))
	}
	for _, n := range []int{0, 1, 64, 65, 8192, 8193, 100000} {
		ask(m.junk(n, 1))
		ask(m.junk(1, n))
		ask(api.Nfa{States: 1, Edges: make([]api.Edge, n)})
		ask(api.Nfa{States: 1, Ends: make([]int, n)})
	}
	if fine < 1000 {
		t.Errorf("%d nets could be", fine)
	}
}

// R1: Of doesn't panic, whatever nodes it is handed.
func TestNoOfPanics(t *testing.T) {
	m := mixer(17)
	numbers := []int{0, 0, 0, 1, 1, 2, 3, -1, 255, 256, math.MaxInt, math.MinInt, 1 << 40}
	for range 20000 {
		l := make([]api.Rex, m.below(4))
		for i := range l {
			for range m.below(4) {
				l[i].L = append(l[i].L, api.RNode{Kind: m.below(9) - 1, A: numbers[m.below(len(numbers))], B: numbers[m.below(len(numbers))]})
			}
		}
		if n, e := nfa.Of(l); e == api.OK && nfa.Check(n) != api.OK || e != api.OK && !isNothing(n) {
			t.Fatalf("Of(%v) = %v, %d", l, n, e)
		}
	}
}

// R2: calls are answered the same each time, and at the same time.
func TestCallsAtTheSameTime(t *testing.T) {
	const calls = 8
	m := mixer(18)
	l := m.patterns(5, 40)
	shared := made(t, l)
	text := m.text("ab", 50)
	answers := func() []int {
		n, e := nfa.Of(l)
		out := []int{n.States, len(n.Edges), int(e)}
		for range 20 {
			a, _ := nfa.Close(shared, []int{0, 5, 1})
			b, _ := nfa.Step(shared, a, 'a')
			rule, _ := nfa.Run(shared, text)
			out = slices.Concat(out, a, b, []int{rule})
		}
		return out
	}
	want := answers()
	wrong := make(chan bool, calls)
	for range calls {
		go func() { wrong <- !slices.Equal(answers(), want) }()
	}
	for range calls {
		if <-wrong {
			t.Error("other answers")
		}
	}
}
