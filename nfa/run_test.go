package nfa_test

import (
	"slices"
	"strings"
	"testing"

	"incunable/api"
	"incunable/nfa"
)

// P10.2: as in the examples.
func TestRunAsInTheExamples(t *testing.T) {
	n := netOf(t, "a*", "b")
	for text, want := range map[string]int{"aa": 0, "b": 1, "ab": -1, "": 0} {
		if rule := ran(t, n, text); rule != want {
			t.Errorf("Run(%q) = %d, want %d", text, rule, want)
		}
	}
}

// P10.2: the first of the rules that take a text is told, by their numbers, not by their ends' ones.
func TestRunOfTheFirstRule(t *testing.T) {
	n := api.Nfa{States: 5, Edges: []api.Edge{by(0, 1, 'a', 'b'), by(0, 2, 'b', 'c'), free(1, 3), by(3, 4, 'a')}}
	for _, c := range []struct {
		ends []int
		text string
		want int
	}{
		{[]int{2, 1}, "a", 1},
		{[]int{2, 1}, "b", 0},
		{[]int{1, 2}, "b", 0},
		{[]int{1, 2}, "c", 1},
		{[]int{4, 3, 1}, "a", 1},
		{[]int{4, 1, 3}, "a", 1},
		{[]int{4, 4, 4}, "aa", 0},
		{[]int{0, 4}, "", 0},
		{[]int{4, 0}, "", 1},
		{[]int{4, 0}, "a", -1},
		{[]int{3, 3}, "", -1},
		{[]int{4}, "ab", -1},
		{nil, "", -1},
		{nil, "a", -1},
	} {
		n.Ends = c.ends
		if rule := ran(t, n, c.text); rule != c.want {
			t.Errorf("ends %v: Run(%q) = %d, want %d", c.ends, c.text, rule, c.want)
		}
	}
}

// P10.2: patterns that both take a text.
func TestRunOfPatternsThatBothTake(t *testing.T) {
	for _, c := range []struct {
		patterns []string
		want     map[string]int
	}{
		{[]string{"if", "[a-z]+"}, map[string]int{"if": 0, "i": 1, "iff": 1, "": -1, "IF": -1}},
		{[]string{"[a-z]+", "if"}, map[string]int{"if": 0, "i": 0}},
		{[]string{"a", "b", "a|b|c"}, map[string]int{"a": 0, "b": 1, "c": 2, "d": -1}},
		{[]string{"x", "", "()"}, map[string]int{"": 1, "x": 0}},
		{nil, map[string]int{"": -1, "a": -1}},
	} {
		n := netOf(t, c.patterns...)
		for text, want := range c.want {
			if rule := ran(t, n, text); rule != want {
				t.Errorf("%q: Run(%q) = %d, want %d", c.patterns, text, rule, want)
			}
		}
	}
}

// P10.2: texts of 8192 bytes, and of one more.
func TestRunOfLongTexts(t *testing.T) {
	n := netOf(t, "(ab)*", "a[ab]*")
	for _, c := range []struct {
		text string
		want int
	}{
		{strings.Repeat("ab", 4096), 0},
		{strings.Repeat("ab", 4095) + "a", 1},
		{strings.Repeat("ab", 4095) + "aa", 1},
		{strings.Repeat("ab", 4095) + "ac", -1},
		{"c" + strings.Repeat("a", 8191), -1},
	} {
		if rule := ran(t, n, c.text); rule != c.want {
			t.Errorf("of %d bytes: %d, want %d", len(c.text), rule, c.want)
		}
	}
	for _, length := range []int{8193, 8194, 100000} {
		if rule, e := nfa.Run(n, []byte(strings.Repeat("ab", length)[:length])); rule != 0 || e != api.ErrLimit {
			t.Errorf("of %d bytes: %d, %d", length, rule, e)
		}
	}
}

// P10.2: nets of all sorts, with rings of free edges, rules that end at one state, or at the beginning, held against the words.
func TestRunOfNets(t *testing.T) {
	m := mixer(5)
	told := map[int]int{}
	for i := range 6000 {
		n := m.net(1+m.below(1+i/300), m.below(1+i/100), m.below(5))
		for range 5 {
			text := string(m.text("abcd", m.below(8)))
			rule, want := ran(t, n, text), slowRun(n, text)
			if rule != want {
				t.Fatalf("%v: Run(%q) = %d, want %d", n, text, rule, want)
			}
			told[rule]++
		}
	}
	for rule := -1; rule <= 3; rule++ {
		if told[rule] < 50 {
			t.Errorf("the rule %d was told %d times", rule, told[rule])
		}
	}
}

// P10.2: all nets of two states and two edges, and all short texts.
func TestRunOfAllSmallNets(t *testing.T) {
	var edges []api.Edge
	for from := range 2 {
		for to := range 2 {
			edges = append(edges, free(from, to), by(from, to), by(from, to, 'a'), by(from, to, 'b'), by(from, to, 'a', 'b'))
		}
	}
	all := texts("ab", 3)
	for _, a := range edges {
		for _, b := range edges {
			for _, ends := range [][]int{nil, {0}, {1}, {0, 1}, {1, 0}} {
				n := api.Nfa{States: 2, Edges: []api.Edge{a, b}, Ends: ends}
				for _, text := range all {
					if rule, want := ran(t, n, text), slowRun(n, text); rule != want {
						t.Fatalf("%v: Run(%q) = %d, want %d", n, text, rule, want)
					}
				}
			}
		}
	}
}

// P10.2: the greatest nets, all of whose states are reached at each byte.
func TestRunOfTheGreatest(t *testing.T) {
	n := api.Nfa{States: 2048, Ends: slices.Repeat([]int{2047}, 64)}
	for i := range 2048 {
		n.Edges = append(n.Edges, free(i, (i+1)%2048), by(i, (i+7)%2048, 'a'), by(i, (i*5)%2048, 'a', 'b'), by(i, i, 'a'))
	}
	if rule := ran(t, n, strings.Repeat("a", 1000)); rule != 0 {
		t.Errorf("%d", rule)
	}
	if rule := ran(t, n, strings.Repeat("a", 1000)+"c"); rule != -1 {
		t.Errorf("%d", rule)
	}
}
