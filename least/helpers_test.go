package least_test

import (
	"slices"
	"testing"

	"incunable/api"
	"incunable/dfa"
	"incunable/least"
	"incunable/nfa"
	"incunable/regex"
)

// mixer makes numbers that look like chance and are always the same.
type mixer uint64

func (m *mixer) next() uint32 {
	*m = *m*6364136223846793005 + 1442695040888963407
	return uint32(*m >> 32)
}

func (m *mixer) below(n int) int {
	return int(m.next() % uint32(n))
}

// text is bytes of some letters.
func (m *mixer) text(letters string, n int) []byte {
	b := make([]byte, n)
	for i := range b {
		b[i] = letters[m.below(len(letters))]
	}
	return b
}

// order is the numbers below n, in some order.
func (m *mixer) order(n int) []int {
	l := make([]int, n)
	for i := range l {
		j := m.below(i + 1)
		l[i] = l[j]
		l[j] = i
	}
	return l
}

// classes are bytes' classes: 0, but those of some letters 1, 2 and so on.
func classes(letters string) (l [256]int) {
	for i := range len(letters) {
		l[letters[i]] = i + 1
	}
	return l
}

// ownClasses are bytes' classes, each its own one.
func ownClasses() (l [256]int) {
	for c := range l {
		l[c] = c
	}
	return l
}

// single is a machine of one class.
func single(next, rule []int) api.Dfa {
	d := api.Dfa{Rule: rule}
	for _, to := range next {
		d.Next = append(d.Next, []int{to})
	}
	return d
}

// chain is a machine of so many states and classes, one state behind the other by all of them, and the last one's rule; all others have none.
func chain(states, classes, rule int) (d api.Dfa) {
	for s := range states {
		to := s + 1
		if to == states {
			to = -1
		}
		d.Next = append(d.Next, slices.Repeat([]int{to}, classes))
		d.Rule = append(d.Rule, -1)
	}
	d.Rule[states-1] = rule
	return d
}

// ring is a machine of so many states, in the last of which alone a rule ends; behind it comes the beginning.
func ring(states int) api.Dfa {
	d := chain(states, 1, 0)
	d.Next[states-1][0] = 0
	return d
}

// machineOf is the machine of patterns.
func machineOf(t *testing.T, patterns ...string) api.Dfa {
	t.Helper()
	var l []api.Rex
	for _, p := range patterns {
		x, _, e := regex.Parse(p)
		if e != api.OK {
			t.Fatalf("Parse(%q): error %d", p, e)
		}
		l = append(l, x)
	}
	n, e := nfa.Of(l)
	d, f := dfa.Of(n)
	if e != api.OK || f != api.OK {
		t.Fatalf("%q: errors %d, %d", patterns, e, f)
	}
	return d
}

// made is the least machine of one; it fails unless that may be, and has no more states.
func made(t *testing.T, d api.Dfa) api.Dfa {
	t.Helper()
	l, e := least.Of(d)
	if e != api.OK {
		t.Fatalf("Of: error %d", e)
	}
	if e := dfa.Check(l); e != api.OK || len(l.Next) > len(d.Next) {
		t.Fatalf("Of: %d states of %d, Check %d", len(l.Next), len(d.Next), e)
	}
	return l
}

// becomes fails unless the least machine of one is as wanted.
func becomes(t *testing.T, d, want api.Dfa) {
	t.Helper()
	if l := made(t, d); !equal(l, want) {
		t.Fatalf("of %v: %v, want %v", d, l, want)
	}
}

// areSame fails unless Same tells so of two machines, in either order.
func areSame(t *testing.T, a, b api.Dfa, want bool) {
	t.Helper()
	for range 2 {
		if is, e := least.Same(a, b); is != want || e != api.OK {
			t.Fatalf("Same of %v and %v: %t, %d", a, b, is, e)
		}
		a, b = b, a
	}
}

// isRefused fails unless all calls tell this error of a machine.
func isRefused(t *testing.T, d api.Dfa, want api.Errno) {
	t.Helper()
	if l, e := least.Of(d); e != want || !equal(l, api.Dfa{}) {
		t.Fatalf("Of: %v, %d, want %d", l, e, want)
	}
	fine := chain(2, 1, 0)
	for _, l := range [][2]api.Dfa{{d, fine}, {fine, d}, {d, d}} {
		if is, e := least.Same(l[0], l[1]); e != want || is {
			t.Fatalf("Same: %t, %d, want %d", is, e, want)
		}
	}
}

// ran is what a machine tells of a text.
func ran(t *testing.T, d api.Dfa, text string) int {
	t.Helper()
	rule, e := dfa.Run(d, []byte(text))
	if e != api.OK {
		t.Fatalf("Run: error %d", e)
	}
	return rule
}

// equal compares all of two machines; lists without elements are alike.
func equal(a, b api.Dfa) bool {
	return a.Class == b.Class && slices.EqualFunc(a.Next, b.Next, slices.Equal) && slices.Equal(a.Rule, b.Rule)
}

// copied is a machine of its own memory.
func copied(d api.Dfa) api.Dfa {
	d.Next, d.Rule = slices.Clone(d.Next), slices.Clone(d.Rule)
	for i, row := range d.Next {
		d.Next[i] = slices.Clone(row)
	}
	return d
}

// machine is one of so many states, classes and rules, which goes nowhere now and then.
func (m *mixer) machine(states, classes, rules int) (d api.Dfa) {
	for c := range d.Class {
		d.Class[c] = m.below(classes)
	}
	nowhere := m.below(3)
	for range states {
		row := make([]int, classes)
		for k := range row {
			row[k] = m.below(states+1) - 1
			if m.below(4) < nowhere {
				row[k] = -1
			}
		}
		d.Next = append(d.Next, row)
		d.Rule = append(d.Rule, max(-1, m.below(2*rules+1)-1-rules))
	}
	return d
}

// grown is a machine of so many states that tells what another one does, which has no more: states are doubled, dead and unreached ones put in, all put into another order, and classes split.
func (m *mixer) grown(d api.Dfa, states int) api.Dfa {
	const dead, unreached = -1, -2
	of := make([]int, states) // which of the other one's states each is
	for i, s := range m.order(states - 1) {
		of[1+s] = i + 1
		if i+1 >= len(d.Next) {
			of[1+s] = m.below(len(d.Next)+2) - 2
		}
	}
	copies := func(s int) (l []int) {
		for i, other := range of {
			if other == s {
				l = append(l, i)
			}
		}
		return l
	}
	one := func(l []int) int { return l[m.below(len(l))] }
	none := append(copies(dead), -1)
	var parts []int // of the classes of the other one; -1: one of no byte
	most := min(3, 255/len(d.Next[0]))
	for k := range d.Next[0] {
		parts = append(parts, slices.Repeat([]int{k}, 1+m.below(max(1, most)))...)
	}
	if most > 0 {
		parts = append(parts, -1)
	}
	order := m.order(len(parts))
	var g api.Dfa
	for c, k := range d.Class {
		first, many := slices.Index(parts, k), 0
		for first+many < len(parts) && parts[first+many] == k {
			many++
		}
		g.Class[c] = order[first+m.below(many)]
	}
	for _, s := range of {
		row, rule := make([]int, len(parts)), -1
		for i, k := range parts {
			row[order[i]] = one(none)
			if s == unreached || k == -1 {
				row[order[i]] = m.below(states+1) - 1
			} else if s != dead && d.Next[s][k] != -1 {
				row[order[i]] = one(copies(d.Next[s][k]))
			}
		}
		if s == unreached {
			rule = m.below(5) - 1
		} else if s != dead {
			rule = d.Rule[s]
		}
		g.Next, g.Rule = append(g.Next, row), append(g.Rule, rule)
	}
	return g
}

// texts are all texts of up to so many of some letters.
func texts(letters string, most int) []string {
	l := []string{""}
	for from, n := 0, 0; n < most; n++ {
		to := len(l)
		for _, t := range l[from:to] {
			for i := range letters {
				l = append(l, t+letters[i:i+1])
			}
		}
		from = to
	}
	return l
}

// each is one byte of each class of a machine that has any.
func each(d api.Dfa) (l []int) {
	for c, k := range d.Class {
		if slices.Index(d.Class[:], k) == c {
			l = append(l, c)
		}
	}
	return l
}

// goes is where a state goes behind a byte: that behind all states, instead of nowhere.
func goes(d api.Dfa, s, c int) int {
	if s == len(d.Next) || d.Next[s][d.Class[c]] == -1 {
		return len(d.Next)
	}
	return d.Next[s][d.Class[c]]
}

// alikes tells of each state, and of nowhere, which is the first one that is alike: pairs are told apart from their ends on.
func alikes(d api.Dfa) []int {
	rules, bytes := append(slices.Clone(d.Rule), -1), each(d)
	apart := make([][]bool, len(rules))
	for a := range apart {
		apart[a] = make([]bool, len(rules))
	}
	for again := true; again; {
		again = false
		for a := range apart {
			for b := range a {
				if !apart[a][b] && (rules[a] != rules[b] || slices.ContainsFunc(bytes, func(c int) bool { return apart[goes(d, a, c)][goes(d, b, c)] })) {
					apart[a][b], apart[b][a], again = true, true, true
				}
			}
		}
	}
	first := make([]int, len(rules))
	for s := range first {
		first[s] = slices.Index(apart[s], false)
	}
	return first
}

// reached are the states that are reached from one.
func reached(d api.Dfa, from int) []int {
	l := []int{from}
	for i := 0; i < len(l); i++ {
		for _, c := range each(d) {
			if to := d.Next[l[i]][d.Class[c]]; to != -1 && !slices.Contains(l, to) {
				l = append(l, to)
			}
		}
	}
	return l
}

// slowOf reads the words of the least machine as they stand.
func slowOf(d api.Dfa) (l api.Dfa) {
	alike := alikes(d)
	isAlive := []bool{}
	for s := range d.Next {
		isAlive = append(isAlive, slices.ContainsFunc(reached(d, s), func(s int) bool { return d.Rule[s] != -1 }))
	}
	// whereTo is the first state that is alike to that behind a byte; -1, if this is dead.
	whereTo := func(s, c int) int {
		to := goes(d, s, c)
		if to == len(d.Next) || !isAlive[to] {
			return -1
		}
		return alike[to]
	}
	states := []int{alike[0]}
	for i := 0; i < len(states); i++ {
		for _, c := range each(d) {
			if to := whereTo(states[i], c); to != -1 && !slices.Contains(states, to) {
				states = append(states, to)
			}
		}
	}
	columns, leasts := map[int][]int{}, []int{}
	for _, c := range each(d) {
		for _, s := range states {
			columns[d.Class[c]] = append(columns[d.Class[c]], whereTo(s, c))
		}
	}
	for c := range 256 {
		k := slices.IndexFunc(leasts, func(least int) bool { return slices.Equal(columns[d.Class[c]], columns[d.Class[least]]) })
		if k < 0 {
			k = len(leasts)
			leasts = append(leasts, c)
		}
		l.Class[c] = k
	}
	numbers := []int{alike[0]}
	for i := 0; i < len(numbers); i++ {
		var row []int
		for _, c := range leasts {
			to := whereTo(numbers[i], c)
			if to != -1 && !slices.Contains(numbers, to) {
				numbers = append(numbers, to)
			}
			row = append(row, slices.Index(numbers, to))
		}
		l.Next, l.Rule = append(l.Next, row), append(l.Rule, d.Rule[numbers[i]])
	}
	return l
}
