package dfa_test

import (
	"bytes"
	"math"
	"slices"
	"testing"

	"incunable/api"
	"incunable/dfa"
)

// roomyNet is a net with spare room behind its lists, in which stands what may not be.
func roomyNet(n api.Nfa) api.Nfa {
	edges := append(slices.Clone(n.Edges), slices.Repeat([]api.Edge{{From: -1, To: 1 << 40, Set: full(), Free: true}}, 20)...)
	ends := append(slices.Clone(n.Ends), slices.Repeat([]int{-1}, 20)...)
	return api.Nfa{States: n.States, Edges: edges[:len(n.Edges)], Ends: ends[:len(n.Ends)]}
}

// wholeNet is a net with its spare room.
func wholeNet(n api.Nfa) api.Nfa {
	return api.Nfa{States: n.States, Edges: n.Edges[:cap(n.Edges)], Ends: n.Ends[:cap(n.Ends)]}
}

func copiedNet(n api.Nfa) api.Nfa {
	return api.Nfa{States: n.States, Edges: slices.Clone(n.Edges), Ends: slices.Clone(n.Ends)}
}

// P11.3: nets are only read, their spare room too, and not kept.
func TestNetsAreOnlyRead(t *testing.T) {
	m := mixer(12)
	for i := range 600 {
		plain := m.net(1+m.below(1+i/30), m.below(1+i/15), m.below(5))
		n := roomyNet(plain)
		was := copiedNet(wholeNet(n))
		d, e := dfa.Of(n)
		if !sameNet(wholeNet(n), was) {
			t.Fatalf("%v became %v", was, wholeNet(n))
		}
		want, is := slowOf(plain)
		if !sameMachine(d, want) || is != (e == api.OK) {
			t.Fatalf("%v: %v, %d", plain, d, e)
		}
		whole := wholeNet(n)
		for i := range whole.Edges {
			whole.Edges[i] = api.Edge{From: -1, To: -1, Set: full()}
		}
		for i := range whole.Ends {
			whole.Ends[i] = -1
		}
		if !sameMachine(d, want) {
			t.Fatal("a net was kept")
		}
	}
}

// roomy is a machine with spare room behind its lists, in which stands what may not be.
func roomy(d api.Dfa) api.Dfa {
	d = copied(d)
	next, rule := len(d.Next), len(d.Rule)
	d.Next = append(d.Next, []int{-9}, nil)[:next]
	d.Rule = append(d.Rule, -9, 99, -9)[:rule]
	for i, row := range d.Next {
		d.Next[i] = append(row, -9, 999)[:len(row)]
	}
	return d
}

// whole is a machine with its spare room.
func whole(d api.Dfa) api.Dfa {
	d.Next, d.Rule = slices.Clone(d.Next[:cap(d.Next)]), d.Rule[:cap(d.Rule)]
	for i, row := range d.Next {
		d.Next[i] = row[:cap(row)]
	}
	return d
}

// P11.3: machines and texts are only read, their spare room too, and what stands there has no say; also of machines that may not be.
func TestMachinesAreOnlyRead(t *testing.T) {
	m := mixer(13)
	for i := range 2000 {
		plain := m.machine(1+m.below(6), 1+m.below(4))
		if i%2 == 0 {
			plain = m.junk(m.below(4), m.below(4))
		}
		d := roomy(plain)
		was := copied(whole(d))
		text := append(m.text("abcdef", m.below(9)), "behind"...)
		wasText := bytes.Clone(text)
		e := dfa.Check(d)
		to, ofStep := dfa.Step(d, 0, 'a')
		rule, ofRun := dfa.Run(d, text[:len(text)-6])
		if !sameMachine(whole(d), was) || !bytes.Equal(text, wasText) {
			t.Fatalf("%v, %q were changed", plain, wasText)
		}
		if e != dfa.Check(plain) || ofStep != e || ofRun != e {
			t.Fatalf("%v: %d, %d, %d", plain, e, ofStep, ofRun)
		}
		if e == api.OK && (to != stepped(t, plain, 0, 'a') || rule != ran(t, plain, string(text[:len(text)-6]))) {
			t.Fatal("what stands around it had a say")
		}
	}
}

// spoil writes over a list, its spare room too.
func spoil(l []int) {
	l = l[:cap(l)]
	for i := range l {
		l[i] = -9
	}
}

// P11.3: two answers share no memory, lists within them neither, nor their spare room.
func TestAnswersAreNewMemory(t *testing.T) {
	m := mixer(14)
	for i := range 400 {
		n := m.net(1+m.below(1+i/20), m.below(1+i/10), m.below(5))
		want, is := slowOf(n)
		if !is {
			continue
		}
		a, b := made(t, n), made(t, n)
		for _, row := range a.Next {
			spoil(row)
		}
		spoil(a.Rule)
		rows := a.Next[:cap(a.Next)]
		for s := range rows {
			rows[s] = []int{-9}
		}
		if !sameMachine(b, want) || !sameMachine(made(t, n), want) {
			t.Fatalf("%v became %v", want, b)
		}
	}
}

// P11.3: no two lists of one answer share memory.
func TestListsOfOneAnswerShareNone(t *testing.T) {
	m := mixer(15)
	for i := range 200 {
		n := m.net(1+m.below(1+i/10), m.below(1+i/5), m.below(5))
		want, is := slowOf(n)
		if !is {
			continue
		}
		d := made(t, n)
		for s, row := range d.Next {
			spoil(row)
			for other := s + 1; other < len(d.Next); other++ {
				if !slices.Equal(d.Next[other], want.Next[other]) {
					t.Fatalf("%v: the states %d and %d share memory", n, s, other)
				}
			}
		}
		if !slices.Equal(d.Rule, want.Rule) {
			t.Fatalf("%v: rules share memory", n)
		}
	}
}

// junk is a machine of numbers of all sorts, which seldom may be.
func (m *mixer) junk(states, classes int) (d api.Dfa) {
	numbers := []int{0, 0, 0, 1, 1, 2, 3, 4, -1, -1, -2, 63, 64, 255, 256, 511, 512, 513, math.MaxInt, math.MinInt, math.MaxInt32, math.MinInt32, 1 << 40}
	number := func() int {
		if m.below(8) > 0 {
			return m.below(3) - 1
		}
		return numbers[m.below(len(numbers))]
	}
	for range states {
		row := make([]int, classes)
		if m.below(20) == 0 {
			row = make([]int, m.below(4))
		}
		for k := range row {
			row[k] = number()
		}
		d.Next = append(d.Next, row)
		if m.below(20) > 0 {
			d.Rule = append(d.Rule, number())
		}
	}
	if m.below(2) == 0 {
		d.Class[m.below(256)] = number()
	}
	return d
}

// R1: no call panics, or goes on for ever, whatever machine it is handed.
func TestNoCallPanics(t *testing.T) {
	m := mixer(16)
	texts := [][]byte{nil, {}, []byte("a"), m.text("ab", 100), make([]byte, 8192), make([]byte, 8193)}
	fine := 0
	ask := func(d api.Dfa) {
		e := dfa.Check(d)
		if e == api.OK {
			fine++
		}
		state := []int{0, 0, 1, 2, -1, 512, math.MinInt, math.MaxInt}[m.below(8)]
		to, ofStep := dfa.Step(d, state, byte(m.next()))
		rule, ofRun := dfa.Run(d, texts[m.below(len(texts))])
		if e != api.OK && (ofStep != e || ofRun != e) {
			t.Fatalf("%v: Check %d, then %d, %d", d, e, ofStep, ofRun)
		}
		if ofStep != api.OK && to != 0 || ofRun != api.OK && rule != 0 {
			t.Fatalf("%v: %d, %d; %d, %d", d, to, ofStep, rule, ofRun)
		}
	}
	for range 20000 {
		ask(m.junk(m.below(5), m.below(4)))
	}
	for _, n := range []int{0, 1, 256, 257, 512, 513, 20000} {
		ask(m.junk(n, 1))
		ask(m.junk(1, n))
		ask(api.Dfa{Next: make([][]int, n), Rule: make([]int, n)})
		ask(api.Dfa{Next: make([][]int, n)})
		ask(api.Dfa{Rule: make([]int, n)})
		ask(api.Dfa{Next: [][]int{make([]int, n), nil}, Rule: []int{0, 0}})
	}
	if fine < 1000 {
		t.Errorf("%d machines could be", fine)
	}
}

// R1: Of doesn't panic, whatever net it is handed.
func TestNoOfPanics(t *testing.T) {
	m := mixer(17)
	numbers := []int{-1, 4, 5, 2047, 2048, 2049, math.MaxInt, math.MinInt, 1 << 40}
	number := func() int {
		if m.below(12) > 0 {
			return m.below(4)
		}
		return numbers[m.below(len(numbers))]
	}
	fine := 0
	for range 20000 {
		n := api.Nfa{States: 4}
		if m.below(4) == 0 {
			n.States = number()
		}
		for range m.below(5) {
			n.Edges = append(n.Edges, api.Edge{From: number(), To: number(), Set: []api.Set{{}, {}, full(), those('a', 0)}[m.below(4)], Free: m.below(3) == 0})
		}
		for range m.below(3) {
			n.Ends = append(n.Ends, number())
		}
		d, e := dfa.Of(n)
		if e == api.OK && dfa.Check(d) != api.OK || e != api.OK && !sameMachine(d, api.Dfa{}) {
			t.Fatalf("Of(%v) = %v, %d", n, d, e)
		}
		if e == api.OK {
			fine++
		}
	}
	if fine < 1000 {
		t.Errorf("%d nets could be", fine)
	}
}

// R2: calls are answered the same each time, and at the same time.
func TestCallsAtTheSameTime(t *testing.T) {
	const calls = 8
	m := mixer(18)
	n := netOf(t, m.patterns(5, 40))
	shared := made(t, n)
	text := m.text("ab", 50)
	answers := func() []int {
		d, e := dfa.Of(n)
		out := slices.Concat(d.Class[:], d.Rule, []int{int(e)})
		for _, row := range d.Next {
			out = append(out, row...)
		}
		for c := range 256 {
			to, _ := dfa.Step(shared, 0, byte(c))
			rule, _ := dfa.Run(shared, text[c%50:])
			out = append(out, to, rule)
		}
		return out
	}
	want := answers()
	wrong := make(chan bool, calls)
	for range calls {
		go func() { wrong <- !slices.Equal(answers(), want) }()
	}
	for range calls {
		if <-wrong {
			t.Error("other answers")
		}
	}
}
