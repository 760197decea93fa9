package least_test

import (
	"math"
	"slices"
	"testing"

	"incunable/api"
)

// none is the least machine of those that tell no rule of any text.
func none() api.Dfa {
	return single([]int{-1}, []int{-1})
}

// P12.1: as in the examples.
func TestOfAsInTheExamples(t *testing.T) {
	becomes(t, single([]int{1, 2, 1}, []int{0, 0, 0}), single([]int{0}, []int{0}))
	becomes(t, single([]int{1, 1}, []int{0, -1}), single([]int{-1}, []int{0}))
	becomes(t, single([]int{0}, []int{-1}), none())
}

// P12.1: machines that may not be: dfa.Check's error, of Same too.
func TestMachinesThatMayNotBe(t *testing.T) {
	with := func(what func(d *api.Dfa)) api.Dfa {
		d := chain(3, 2, 0)
		what(&d)
		return d
	}
	for _, d := range []api.Dfa{
		{},
		{Next: [][]int{}, Rule: []int{}},
		{Next: [][]int{{0}}},
		{Rule: []int{0}},
		{Next: [][]int{{}}, Rule: []int{0}},
		{Next: [][]int{{0}, {0, 0}}, Rule: []int{0, 0}},
		{Next: [][]int{{0}, nil}, Rule: []int{0, 0}},
		with(func(d *api.Dfa) { d.Rule = d.Rule[:2] }),
		with(func(d *api.Dfa) { d.Rule = append(d.Rule, 0) }),
		with(func(d *api.Dfa) { d.Rule[0] = 64 }),
		with(func(d *api.Dfa) { d.Rule[2] = -2 }),
		with(func(d *api.Dfa) { d.Rule[1] = math.MinInt }),
		with(func(d *api.Dfa) { d.Next[0][1] = 3 }),
		with(func(d *api.Dfa) { d.Next[2][0] = -2 }),
		with(func(d *api.Dfa) { d.Next[2][1] = math.MaxInt }),
		with(func(d *api.Dfa) { d.Class[0] = 2 }),
		with(func(d *api.Dfa) { d.Class[255] = -1 }),
		with(func(d *api.Dfa) { d.Class['a'] = 256 }),
	} {
		isRefused(t, d, api.ErrArg)
	}
	for _, d := range []api.Dfa{
		chain(513, 1, 0),
		chain(1, 257, 0),
		chain(2000, 300, -1),
		{Next: make([][]int, 513)},
		{Rule: make([]int, 513)},
		{Next: [][]int{{7}, make([]int, 257)}, Rule: []int{99}},
		with(func(d *api.Dfa) { d.Next[1] = make([]int, 257); d.Class[9] = -1 }),
	} {
		isRefused(t, d, api.ErrLimit)
	}
}

// P12.1: what may not be is seen where it has no say, too: in states that are not reached, or dead, and in classes of no byte.
func TestWhatMayNotBeWhereItHasNoSay(t *testing.T) {
	for _, d := range []api.Dfa{
		single([]int{-1, 2}, []int{0, 0}),
		single([]int{-1, -1}, []int{0, 64}),
		single([]int{1, 2}, []int{0, -1}),
		{Next: [][]int{{-1, 1}}, Rule: []int{0}},
		{Next: [][]int{{-1, 0}, {-1}}, Rule: []int{0, -1}},
	} {
		isRefused(t, d, api.ErrArg)
	}
}

// P12.1: a dead beginning: alone, with states behind it, and with live ones that are not reached from it.
func TestADeadBeginning(t *testing.T) {
	for _, d := range []api.Dfa{
		single([]int{-1}, []int{-1}),
		single([]int{0}, []int{-1}),
		single([]int{1, -1}, []int{-1, -1}),
		single([]int{1, 0}, []int{-1, -1}),
		single([]int{1, 2, 1}, []int{-1, -1, -1}),
		single([]int{-1, -1}, []int{-1, 0}),
		single([]int{0, 0}, []int{-1, 63}),
		single([]int{1, 0, 2, 0}, []int{-1, -1, 5, 6}),
		chain(512, 256, -1),
		chain(1, 256, -1),
		{Class: ownClasses(), Next: chain(40, 256, -1).Next, Rule: chain(40, 256, -1).Rule},
		{Class: classes("ab"), Next: [][]int{{0, 1, 2}, {2, 1, -1}, {-1, -1, 1}, {0, 4, 0}, {4, 3, 1}}, Rule: []int{-1, -1, -1, 0, 1}},
	} {
		becomes(t, d, none())
		areSame(t, d, none(), true)
		areSame(t, d, single([]int{-1}, []int{0}), false)
	}
}

// P12.1: the beginning is not dead if a rule is far behind it only, nor if it has one itself.
func TestABeginningThatIsNotDead(t *testing.T) {
	becomes(t, single([]int{-1}, []int{63}), single([]int{-1}, []int{63}))
	becomes(t, single([]int{1, 1}, []int{63, -1}), single([]int{-1}, []int{63}))
	for _, d := range []api.Dfa{chain(2, 1, 0), chain(3, 1, 7), chain(512, 1, 63), ring(2), ring(60)} {
		becomes(t, d, d)
		areSame(t, d, none(), false)
	}
}

// P12.1: one goes nowhere, instead of to dead states: those that go nowhere themselves, around in rings, or to dead ones, far behind.
func TestDeadStatesInTheMidst(t *testing.T) {
	d := api.Dfa{
		Class: classes("abcd"),
		Next: [][]int{
			{1, 2, 3, 5, 6},      // the beginning
			{-1, -1, -1, -1, -1}, // goes nowhere
			{2, 2, 2, 2, 2},      // stays
			{4, 1, 2, -1, 3},     // around, to those, and to the next one
			{3, -1, 4, 1, 2},
			{-1, 4, 5, 0, 1}, // is not dead: one comes back
			{1, 1, 2, 3, 4},  // is not dead, as a rule ends in it
		},
		Rule: []int{-1, -1, -1, -1, -1, -1, 9},
	}
	want := api.Dfa{
		Class: classes("bcd"),
		Next:  [][]int{{-1, -1, 1, 2}, {-1, 1, 0, -1}, {-1, -1, -1, -1}},
		Rule:  []int{-1, -1, 9},
	}
	becomes(t, d, want)
	areSame(t, d, want, true)
}

// P12.1: states that are not reached have no say: not in numbers, nor in classes, nor in what is alike.
func TestStatesThatAreNotReached(t *testing.T) {
	d := api.Dfa{
		Class: classes("abc"),
		Next:  [][]int{{-1, 3, 3, -1}, {0, 1, 2, 3}, {4, 0, 1, 3}, {-1, -1, -1, -1}, {2, 1, 4, 0}},
		Rule:  []int{-1, 1, 2, 0, 0},
	}
	want := api.Dfa{Next: [][]int{{-1, 1}, {-1, -1}}, Rule: []int{-1, 0}}
	want.Class['a'], want.Class['b'] = 1, 1
	becomes(t, d, want)
	// All that goes to them is of a class that no byte has.
	d = api.Dfa{Next: [][]int{{0, 1}, {1, 1}}, Rule: []int{0, 1}}
	becomes(t, d, single([]int{0}, []int{0}))
	d.Class['x'] = 1
	becomes(t, d, d)
}

// P12.1: classes of no byte have no say: behind them no rule is reached, no two states are unlike, no class is counted.
func TestClassesOfNoByte(t *testing.T) {
	for _, d := range []api.Dfa{
		{Next: [][]int{{-1, 1}, {-1, -1}}, Rule: []int{-1, 0}},
		{Next: [][]int{{1, 2}, {0, 2}, {2, 2}}, Rule: []int{-1, -1, 0}},
	} {
		becomes(t, d, none())
	}
	d := api.Dfa{Next: [][]int{{1, 0, 2}, {0, 2, 1}, {2, -1, 1}}, Rule: []int{0, 0, 1}}
	becomes(t, d, single([]int{0}, []int{0}))
	d = api.Dfa{Next: [][]int{{0, 2, 1}, {1, 0, 2}, {-1, 2, 0}}, Rule: []int{0, 1, 2}}
	for c := range d.Class {
		d.Class[c] = 1
	}
	becomes(t, d, single([]int{1, 1}, []int{0, 2}))
	d.Class[200] = 2
	want := api.Dfa{Next: [][]int{{1, 2}, {1, 0}, {0, 1}}, Rule: []int{0, 2, 1}}
	want.Class[200] = 1
	becomes(t, d, want)
}

// P12.1: states that are alike at once: they have the same rule, and go to the same; or to each other.
func TestStatesThatAreAlikeAtOnce(t *testing.T) {
	d := api.Dfa{
		Class: classes("abcd"),
		Next:  [][]int{{0, 1, 2, 3, 4}, {0, 1, -1, 2, -1}, {0, 1, -1, 2, -1}, {3, 4, 1, -1, 2}, {4, 3, 2, -1, 1}},
		Rule:  []int{3, 5, 5, 5, 5},
	}
	want := api.Dfa{
		Class: classes("abcd"),
		Next:  [][]int{{0, 1, 1, 2, 2}, {0, 1, -1, 1, -1}, {2, 2, 1, -1, 1}},
		Rule:  []int{3, 5, 5},
	}
	becomes(t, d, want)
	becomes(t, single([]int{1, 2, 3, 0}, []int{7, 7, 7, 7}), single([]int{0}, []int{7}))
	becomes(t, single([]int{1, 2, 3, 0}, []int{7, 8, 7, 8}), single([]int{1, 0}, []int{7, 8}))
	becomes(t, single([]int{1, 2, 3, 1}, []int{0, 1, 0, 1}), single([]int{1, 2, 3, 1}, []int{0, 1, 0, 1}))
	becomes(t, single([]int{1, 2, 3, 2}, []int{0, 1, 0, 1}), single([]int{1, 0}, []int{0, 1}))
}

// allRule is a machine in each of whose states a rule ends.
func allRule(d api.Dfa, rule int) api.Dfa {
	d = copied(d)
	for s := range d.Rule {
		d.Rule[s] = rule
	}
	return d
}

// P12.1: states that only texts of as many bytes as there are states less one tell apart, or less two, are apart.
func TestStatesThatLongTextsTellApart(t *testing.T) {
	for _, n := range []int{2, 3, 4, 5, 17, 64, 255, 256, 257, 512} {
		// Of the first two one text alone is told apart: the one of all bytes but one.
		d := allRule(chain(n, 1, 0), 4)
		becomes(t, d, d)
		areSame(t, d, allRule(chain(n-1, 1, 0), 4), false)
		becomes(t, chain(n, 1, 4), chain(n, 1, 4))
		becomes(t, ring(n), ring(n))
		becomes(t, allRule(ring(n), 4), single([]int{0}, []int{4}))
		// The last one of all rules is another one.
		d = allRule(ring(n), 4)
		d.Rule[n-1] = 5
		becomes(t, d, d)
	}
}

// P12.1: the rule of a state counts, and not only whether there is one: of all rules.
func TestTheRuleCounts(t *testing.T) {
	var next, rules []int
	for rule := -1; rule < 64; rule++ {
		next, rules = append(next, len(next)+1), append(rules, rule)
	}
	next[64] = 0
	d := single(next, rules)
	becomes(t, d, d)
	// All are reached at once, behind a byte each, and go nowhere; those without a rule are dead.
	d = api.Dfa{Next: [][]int{{}}, Rule: []int{-1}}
	want := api.Dfa{Next: [][]int{{-1}}, Rule: []int{-1}}
	for c := range 256 {
		d.Class[c], d.Next[0] = c, append(d.Next[0], 1+c)
		d.Next, d.Rule = append(d.Next, slices.Repeat([]int{-1}, 256)), append(d.Rule, c%65-1)
		want.Class[c] = c % 65
		if c > 0 && c < 65 {
			want.Next[0] = append(want.Next[0], c)
			want.Next, want.Rule = append(want.Next, slices.Repeat([]int{-1}, 65)), append(want.Rule, c-1)
		}
	}
	becomes(t, d, want)
}

// P12.1: machines of one state, of one class and of 256.
func TestOneState(t *testing.T) {
	for _, many := range []int{1, 2, 255, 256} {
		for _, rule := range []int{-1, 0, 63} {
			d := chain(1, many, rule)
			for c := range d.Class {
				d.Class[c] = min(c, many-1)
			}
			becomes(t, d, single([]int{-1}, []int{rule}))
			d.Next[0] = make([]int, many)
			if rule == -1 {
				becomes(t, d, none())
				continue
			}
			becomes(t, d, single([]int{0}, []int{rule}))
			if many == 1 {
				continue
			}
			d.Next[0][1] = -1
			want := api.Dfa{Next: [][]int{{0, -1}}, Rule: []int{rule}}
			for c := range want.Class {
				if d.Class[c] == 1 {
					want.Class[c] = 1
				}
			}
			becomes(t, d, want)
		}
	}
}

// renumbered is a machine of a class a byte, all of whose states are apart, as its states are reached, byte by byte.
func renumbered(d api.Dfa) api.Dfa {
	want := api.Dfa{Class: ownClasses()}
	order := []int{0}
	for i := 0; i < len(order); i++ {
		row := make([]int, 256)
		for c, k := range d.Class {
			to := d.Next[order[i]][k]
			if to != -1 && !slices.Contains(order, to) {
				order = append(order, to)
			}
			row[c] = slices.Index(order, to)
		}
		want.Next, want.Rule = append(want.Next, row), append(want.Rule, d.Rule[order[i]])
	}
	return want
}

// P12.1: machines of 512 states and 256 classes, all of which are left.
func TestTheGreatest(t *testing.T) {
	m := mixer(1)
	for range 3 {
		d := m.machine(512, 256, 64)
		for c, k := range m.order(256) {
			d.Class[c] = k
		}
		want := renumbered(d)
		if len(want.Next) != 512 {
			t.Fatalf("%d states are reached", len(want.Next))
		}
		becomes(t, d, want)
		becomes(t, want, want)
	}
}

// P12.1: machines of 512 states and 256 classes, of which few classes, or few states too, are left.
func TestTheGreatestThatBecomeSmall(t *testing.T) {
	d := chain(512, 256, 0)
	d.Class = ownClasses()
	becomes(t, d, chain(512, 1, 0))
	becomes(t, allRule(d, 1), allRule(chain(512, 1, 0), 1))
	// A state is twice the one ahead, and one more behind each second byte; what is left of it by 64 is its rule, and all that is told of it.
	want := api.Dfa{Class: d.Class}
	for c := range want.Class {
		want.Class[c] %= 2
	}
	for s := range 512 {
		for k := range d.Next[s] {
			d.Next[s][k] = (2*s + k%2) % 512
		}
		d.Rule[s] = s % 64
		if s < 64 {
			want.Next, want.Rule = append(want.Next, []int{2 * s % 64, (2*s + 1) % 64}), append(want.Rule, s)
		}
	}
	becomes(t, d, want)
	areSame(t, d, want, true)
}

// P12.1: states are numbered as they are reached: state by state, and class by class as the least machine's classes are numbered, not as those of the machine are.
func TestStatesAreNumberedAsTheyAreReached(t *testing.T) {
	d := api.Dfa{
		Class: classes("dcba"),
		Next: [][]int{
			{-1, 4, 6, 2, 3},
			{-1, 0, -1, -1, -1},
			{-1, 5, -1, -1, 1},
			{-1, -1, 2, 5, -1},
			{-1, -1, -1, 1, 1},
			{-1, -1, 1, -1, -1},
			{-1, -1, -1, -1, -1},
		},
		Rule: []int{10, 11, 12, 13, 14, 15, 16},
	}
	want := api.Dfa{
		Class: classes("abcd"),
		Next: [][]int{
			{-1, 1, 2, 3, 4},
			{-1, -1, 5, 2, -1},
			{-1, 6, -1, -1, 5},
			{-1, -1, -1, -1, -1},
			{-1, 6, 6, -1, -1},
			{-1, -1, -1, 6, -1},
			{-1, -1, -1, -1, 0},
		},
		Rule: []int{10, 13, 12, 16, 14, 15, 11},
	}
	becomes(t, d, want)
	becomes(t, want, want)
}

// P12.1: where alike states are is told by the one that is reached first, not by that of the least number.
func TestAlikeStatesAreNumberedByTheFirstOneReached(t *testing.T) {
	d := api.Dfa{
		Class: classes("abc"),
		Next:  [][]int{{-1, 4, 3, 1}, {-1, -1, 2, -1}, {-1, -1, -1, -1}, {-1, 0, 0, 0}, {-1, -1, 5, -1}, {-1, -1, -1, -1}},
		Rule:  []int{-1, 1, 0, 2, 1, 0},
	}
	want := api.Dfa{
		Next: [][]int{{-1, 1, 2}, {-1, -1, 3}, {-1, 0, 0}, {-1, -1, -1}},
		Rule: []int{-1, 1, 2, 0},
	}
	want.Class['a'], want.Class['b'], want.Class['c'] = 1, 2, 1
	becomes(t, d, want)
}

// P12.1: classes behind which all go to the same become one, and are numbered by their least bytes, however they were numbered.
func TestClassesThatBecomeOne(t *testing.T) {
	for i, f := range []func(c int) int{
		func(c int) int { return 0 },
		func(c int) int { return 63 },
		func(c int) int { return c % 64 },
		func(c int) int { return 63 - c/4 },
		func(c int) int { return c % 2 },
		func(c int) int { return (c + 1) % 2 },
		func(c int) int { return c / 255 },
		func(c int) int { return (c + 255) / 256 },
		func(c int) int { return c * 7 % 50 },
		func(c int) int { return c % 16 * (c / 16) % 64 },
	} {
		m := mixer(i)
		// Behind each byte the rule that the function tells ends.
		d := api.Dfa{Next: [][]int{make([]int, 256)}, Rule: []int{-1}}
		for rule := range 64 {
			d.Next, d.Rule = append(d.Next, slices.Repeat([]int{-1}, 256)), append(d.Rule, rule)
		}
		want := api.Dfa{Next: [][]int{nil}, Rule: []int{-1}}
		for c, k := range m.order(256) {
			d.Class[c], d.Next[0][k] = k, 1+f(c)
			if !slices.Contains(want.Rule, f(c)) {
				want.Next[0], want.Rule = append(want.Next[0], len(want.Rule)), append(want.Rule, f(c))
			}
			want.Class[c] = slices.Index(want.Rule, f(c)) - 1
		}
		for range want.Next[0] {
			want.Next = append(want.Next, slices.Repeat([]int{-1}, len(want.Next[0])))
		}
		becomes(t, d, want)
	}
}

// P12.1: classes become one if they lead to alike states, to dead ones and nowhere, or differ in states alone that are dead or not reached; one state is enough to keep them apart.
func TestWhyClassesBecomeOne(t *testing.T) {
	d := api.Dfa{
		Class: classes("abcdefg"),
		Next: [][]int{
			{-1, 1, 2, 3, -1, 1, 2, 4},
			{-1, 1, 2, 1, 2, -1, 3, 4}, // alike
			{4, 2, 2, 2, 1, 5, -1, -1}, // to this
			{3, 4, 5, -1, 3, 4, 5, 3},  // dead
			{-1, 3, 4, 5, 3, 4, 5, 4},  // dead
			{3, 4, 4, -1, 3, 5, 5, 3},  // dead
			{0, 1, 2, 3, 4, 5, 6, 6},   // not reached
		},
		Rule: []int{-1, 0, 0, -1, -1, -1, 0},
	}
	want := api.Dfa{
		Class: [256]int{'a': 1, 'b': 1, 'c': 2, 'd': 2, 'e': 3, 'f': 3},
		Next:  [][]int{{-1, 1, -1, 1}, {-1, 1, 1, -1}},
		Rule:  []int{-1, 0},
	}
	becomes(t, d, want)
	d.Next[0][2] = 3
	want.Class['b'] = 2
	becomes(t, d, want)
	d.Next[0][6] = -1
	want.Class['f'] = 0
	becomes(t, d, want)
	d.Next[0][5] = 5
	want.Class['e'] = 0
	want.Next = [][]int{{-1, 1, -1}, {-1, 1, 1}}
	becomes(t, d, want)
}

// P12.1: machines of all sorts, held against the words.
func TestOfMachines(t *testing.T) {
	m := mixer(2)
	fewer := map[int]int{}
	for i := range 6000 {
		states := 1 + m.below(1+i/300)
		d := m.machine(states, 1+m.below(1+i/1000), 1+m.below(3))
		want := slowOf(d)
		becomes(t, d, want)
		fewer[min(states-len(want.Next), 5)]++
	}
	for n := range 6 {
		if fewer[n] < 100 {
			t.Errorf("%d states fewer: %d", n, fewer[n])
		}
	}
}

// P12.1: machines in which many states are alike, dead or not reached, held against the words.
func TestOfGrownMachines(t *testing.T) {
	m := mixer(3)
	sizes := map[int]int{}
	for i := range 1500 {
		d := m.machine(1+m.below(1+i/150), 1+m.below(4), 1+m.below(3))
		d = m.grown(d, len(d.Next)+m.below(1+i/75))
		want := slowOf(d)
		becomes(t, d, want)
		sizes[min(len(want.Next), 6)]++
	}
	for size := 1; size <= 6; size++ {
		if sizes[size] < 30 {
			t.Errorf("of %d states: %d", size, sizes[size])
		}
	}
}

// smallMachines are all machines of so many states, classes and rules; all bytes are of the class 0, but a, b and so on of the others.
func smallMachines(states, many, rules int, tell func(d api.Dfa)) {
	d := chain(states, many, -1)
	d.Class = classes("abcdef"[:many-1])
	var places []*int
	var above []int
	for s, row := range d.Next {
		for k := range row {
			places, above = append(places, &row[k]), append(above, states)
		}
		places, above = append(places, &d.Rule[s]), append(above, rules)
	}
	for _, p := range places {
		*p = -1
	}
	for {
		tell(d)
		i := 0
		for i < len(places) && *places[i] == above[i]-1 {
			*places[i] = -1
			i++
		}
		if i == len(places) {
			return
		}
		*places[i]++
	}
}

// P12.1: all small machines, held against the words.
func TestOfAllSmallMachines(t *testing.T) {
	for _, size := range [][3]int{{1, 1, 2}, {1, 2, 2}, {1, 3, 2}, {2, 1, 3}, {2, 2, 2}, {2, 3, 1}, {3, 1, 2}} {
		smallMachines(size[0], size[1], size[2], func(d api.Dfa) { becomes(t, d, slowOf(d)) })
	}
}

// P12.1: machines of patterns, held against the words.
func TestOfPatterns(t *testing.T) {
	for _, c := range []struct {
		patterns []string
		states   int
	}{
		{[]string{"(a|b)*abb"}, 4},
		{[]string{"(a|b)*a(a|b)(a|b)"}, 8},
		{[]string{"(a|b)(a|b)(a|b)"}, 4},
		{[]string{"abc|abd|ab[x-z]|a(b)[e-g]"}, 4},
		{[]string{"a*", "b"}, 3},
		{[]string{"[^\\x00-\\xff]"}, 1},
		{[]string{"a[^\\x00-\\xff]"}, 1},
		{[]string{"[a-z]+", "if"}, 2},
		{[]string{"if", "[a-z]+", "[ ]+", "[0-9]+"}, 6},
		{nil, 1},
		{[]string{""}, 1},
		{[]string{"", "a", "aa", "a*"}, 4},
	} {
		d := machineOf(t, c.patterns...)
		becomes(t, d, slowOf(d))
		if l := made(t, d); len(l.Next) != c.states {
			t.Errorf("%q: %d states, want %d", c.patterns, len(l.Next), c.states)
		}
	}
}
