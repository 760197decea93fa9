package least_test

import (
	"slices"
	"testing"

	"incunable/api"
	"incunable/least"
)

// P12.1: Same tells the error of a ahead of that of b.
func TestSameTellsTheErrorOfTheFirstFirst(t *testing.T) {
	isArg, isLimit := single([]int{1}, []int{0}), chain(513, 1, 0)
	for _, c := range []struct {
		a, b api.Dfa
		want api.Errno
	}{
		{isArg, isLimit, api.ErrArg},
		{isLimit, isArg, api.ErrLimit},
		{api.Dfa{}, chain(1, 257, 0), api.ErrArg},
		{chain(1, 257, 0), api.Dfa{}, api.ErrLimit},
		{none(), isLimit, api.ErrLimit},
		{none(), isArg, api.ErrArg},
		{isLimit, none(), api.ErrLimit},
		{isArg, none(), api.ErrArg},
		// That they are of unlike sizes, or plainly tell unlike things, is not told ahead.
		{single([]int{-1}, []int{0}), single([]int{-1, -1}, []int{1, 64}), api.ErrArg},
		{single([]int{-1, 5}, []int{1, 1}), single([]int{-1}, []int{0}), api.ErrArg},
	} {
		if is, e := least.Same(c.a, c.b); e != c.want || is {
			t.Errorf("%t, %d, want %d", is, e, c.want)
		}
	}
}

// P12.1: of a machine and itself, and its least one.
func TestSameOfAMachineAndItsLeast(t *testing.T) {
	m := mixer(4)
	list := []api.Dfa{none(), single([]int{0}, []int{63}), chain(90, 3, 0), ring(100), m.machine(512, 256, 2)}
	for i := range 300 {
		list = append(list, m.machine(1+m.below(1+i/15), 1+m.below(4), 1+m.below(2)))
	}
	for _, d := range list {
		areSame(t, d, d, true)
		areSame(t, d, copied(d), true)
		areSame(t, d, made(t, d), true)
	}
}

// P12.1: machines that tell the same, but have unlike numbers of states or of classes, or number them otherwise.
func TestSameOfMachinesThatLookUnlike(t *testing.T) {
	split := api.Dfa{Class: ownClasses(), Next: chain(3, 256, 2).Next, Rule: chain(3, 256, 2).Rule}
	areSame(t, chain(3, 1, 2), split, true)
	for _, l := range [][2]api.Dfa{
		{single([]int{0}, []int{0}), single([]int{1, 2, 3, 4, 0}, []int{0, 0, 0, 0, 0})},
		{single([]int{0}, []int{0}), single([]int{1, 2, 1, -1}, []int{0, 0, 0, 5})},
		{single([]int{1, 0}, []int{0, 1}), single([]int{3, 3, 1, 0}, []int{0, 7, -1, 1})},
		{single([]int{-1}, []int{0}), single([]int{1, 2, 3, -1}, []int{0, -1, -1, -1})},
		{chain(3, 5, 2), chain(3, 1, 2)},
		{{Class: classes("ab"), Next: [][]int{{-1, 1, 2}, {-1, -1, -1}, {-1, -1, -1}}, Rule: []int{-1, 3, 4}}, {Class: classes("ba"), Next: [][]int{{3, 1, 2}, {3, 3, -1}, {3, -1, -1}, {3, 3, 3}}, Rule: []int{-1, 4, 3, -1}}},
		{{Class: classes("a"), Next: [][]int{{-1, 0}}, Rule: []int{0}}, {Class: classes("ba"), Next: [][]int{{-1, -1, 0}}, Rule: []int{0}}},
		{{Next: [][]int{{0, 1}, {-1, -1}}, Rule: []int{0, 1}}, single([]int{0}, []int{0})},
		{{Next: [][]int{{-1, 1}, {-1, -1}}, Rule: []int{-1, 1}}, none()},
	} {
		areSame(t, l[0], l[1], true)
	}
}

// P12.1: machines that are nearly alike: that have the same rules but at other states, the same ways but by other bytes, or the same but for one rule.
func TestSameOfMachinesThatLookAlike(t *testing.T) {
	byLetter := func(class [256]int) api.Dfa {
		return api.Dfa{Class: class, Next: [][]int{{-1, 1}, {-1, -1}}, Rule: []int{-1, 0}}
	}
	for _, l := range [][2]api.Dfa{
		{none(), single([]int{-1}, []int{0})},
		{single([]int{-1}, []int{0}), single([]int{-1}, []int{1})},
		{single([]int{-1}, []int{0}), single([]int{0}, []int{0})},
		{single([]int{1, 0}, []int{0, 1}), single([]int{1, 0}, []int{1, 0})},
		{single([]int{1, 0}, []int{0, 1}), single([]int{1, 1}, []int{0, 1})},
		{single([]int{1, -1}, []int{0, 1}), single([]int{1, -1}, []int{0, 2})},
		{single([]int{1, -1}, []int{0, 1}), single([]int{1, -1}, []int{-1, 1})},
		{byLetter(classes("a")), byLetter(classes("b"))},
		{byLetter(classes("a")), byLetter([256]int{'a': 1, 'b': 1})},
		{byLetter(classes("a")), byLetter([256]int{'a': 1, 255: 1})},
		{byLetter(classes("a")), byLetter([256]int{0: 1, 'a': 1})},
		{byLetter(classes("a")), none()},
		{chain(3, 1, 0), chain(4, 1, 0)},
		{ring(3), ring(6)},
		{ring(3), chain(3, 1, 0)},
	} {
		areSame(t, l[0], l[1], false)
	}
}

// butOne is a machine that tells the rule 0 of all texts of as many bytes as one text has, but another rule of that one; of texts of other lengths none.
func butOne(text []byte, rule int) api.Dfa {
	n := len(text)
	// The first states are those on the way of that text, the n behind them those away from it.
	d := chain(n+1, 256, rule)
	d.Class = ownClasses()
	for i, c := range text {
		away := n + 1 + i
		for k := range d.Next[i] {
			if k != int(c) {
				d.Next[i][k] = away
			}
		}
		d.Next = append(d.Next, slices.Repeat([]int{away + 1}, 256))
		d.Rule = append(d.Rule, -1)
	}
	d.Next[2*n], d.Rule[2*n] = slices.Repeat([]int{-1}, 256), 0
	return d
}

// P12.1: machines that differ at one text alone, short or long, whatever its bytes.
func TestSameOfMachinesThatDifferAtOneText(t *testing.T) {
	m := mixer(5)
	for _, n := range []int{1, 2, 3, 10, 60} {
		plain := chain(n+1, 1, 0)
		text := m.text("ab\x00\xff", n)
		other := append([]byte{text[0] + 1}, text[1:]...)
		for _, rule := range []int{-1, 1, 63} {
			d := butOne(text, rule)
			if ran(t, d, string(text)) != rule || ran(t, d, string(other)) != 0 {
				t.Fatal("not the machine that this test is of")
			}
			areSame(t, d, plain, false)
			areSame(t, d, butOne(text, 0), false)
			areSame(t, d, butOne(other, rule), false)
			areSame(t, d, m.grown(butOne(text, rule), 2*n+1), true)
		}
		areSame(t, butOne(text, 0), plain, true)
		areSame(t, butOne(text, 0), butOne(other, 0), true)
	}
	text := m.text("ab\x00\xff", 255)
	areSame(t, butOne(text, 1), butOne(text, 0), false)
}

// P12.1: rings of n states and of one less, which differ at texts of 2n - 3 bytes and more alone.
func TestSameOfRings(t *testing.T) {
	for _, n := range []int{2, 3, 10, 100, 512} {
		a, b := ring(n), ring(n-1)
		a.Rule[n-1], a.Rule[n-2] = -1, 0
		for length := range 2*n - 2 {
			text := string(make([]byte, length))
			if (ran(t, a, text) == ran(t, b, text)) != (length < 2*n-3) {
				t.Fatal("not the machines that this test is of")
			}
		}
		areSame(t, a, b, false)
	}
	areSame(t, ring(256), allRule(ring(256), 0), false)
	twice := ring(512)
	twice.Rule[255] = 0
	areSame(t, ring(256), twice, true)
	twice.Rule[255] = 1
	areSame(t, ring(256), twice, false)
}

// tellTheSame goes through two machines at once, over all pairs of states to which some text leads.
func tellTheSame(a, b api.Dfa) bool {
	rule := func(d api.Dfa, s int) int {
		if s == len(d.Next) {
			return -1
		}
		return d.Rule[s]
	}
	pairs := [][2]int{{0, 0}}
	for i := 0; i < len(pairs); i++ {
		if rule(a, pairs[i][0]) != rule(b, pairs[i][1]) {
			return false
		}
		for c := range 256 {
			if pair := [2]int{goes(a, pairs[i][0], c), goes(b, pairs[i][1], c)}; !slices.Contains(pairs, pair) {
				pairs = append(pairs, pair)
			}
		}
	}
	return true
}

// P12.1: machines of all sorts, and such as come of them by little.
func TestSameOfMachines(t *testing.T) {
	m := mixer(6)
	told := map[bool]int{}
	for i := range 3000 {
		a := m.machine(1+m.below(1+i/300), 1+m.below(3), 1)
		b := m.grown(a, len(a.Next)+m.below(6))
		switch i % 3 {
		case 0:
			b = m.machine(1+m.below(1+i/300), 1+m.below(3), 1)
		case 1:
			s := m.below(len(b.Next))
			b.Next[s][m.below(len(b.Next[s]))] = m.below(len(b.Next)+1) - 1
			b.Rule[m.below(len(b.Next))] = m.below(2) - 1
		}
		want := tellTheSame(a, b)
		areSame(t, a, b, want)
		told[want]++
	}
	if told[true] < 1000 || told[false] < 1000 {
		t.Errorf("%v", told)
	}
}

// P12.1: patterns that take the same texts, and such as don't.
func TestSameOfPatterns(t *testing.T) {
	for _, c := range []struct {
		a, b []string
		want bool
	}{
		{[]string{"a+"}, []string{"aa*"}, true},
		{[]string{"(a|b)*"}, []string{"(a*b*)*"}, true},
		{[]string{"ab|ac"}, []string{"a[bc]"}, true},
		{[]string{"(ab)*a"}, []string{"a(ba)*"}, true},
		{[]string{"(a|b)*abb", "[ab]+"}, []string{"(b|a+b(ab)*b)*[ab]*abb", "(a|b)(a|b)*"}, true},
		{[]string{"if", "[a-z]+"}, []string{"if", "[a-hj-z][a-z]*|i([a-eg-z][a-z]*|f[a-z]+)?"}, true},
		{[]string{"if", "[a-z]+"}, []string{"[a-z]+", "if"}, false},
		{[]string{"if", "[a-z]+"}, []string{"if", "if", "[a-z]+"}, false},
		{[]string{"[a-z]+", "if"}, []string{"[a-z]+"}, true},
		{[]string{"[^\\x00-\\xff]"}, nil, true},
		{[]string{""}, nil, false},
		{[]string{"a*"}, []string{"a+"}, false},
		{[]string{"ab"}, []string{"ac"}, false},
		{[]string{"(ab)*"}, []string{"(ba)*"}, false},
		{[]string{"[^a]"}, []string{"[^b]"}, false},
		{[]string{"(aaa)*"}, []string{"(aaaaaa)*"}, false},
	} {
		areSame(t, machineOf(t, c.a...), machineOf(t, c.b...), c.want)
	}
}
