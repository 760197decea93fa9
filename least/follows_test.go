package least_test

import (
	"slices"
	"testing"

	"incunable/api"
)

// tellsTheSame fails unless the least machine of one tells of texts what that tells.
func tellsTheSame(t *testing.T, d api.Dfa, texts ...string) map[int]int {
	t.Helper()
	l := made(t, d)
	told := map[int]int{}
	for _, text := range texts {
		want := ran(t, d, text)
		if rule := ran(t, l, text); rule != want {
			t.Fatalf("%v, the least %v: Run(%q) = %d, want %d", d, l, text, rule, want)
		}
		told[want]++
	}
	return told
}

// P12.3: the least machine tells what the machine tells: of machines of all sorts, and texts of all bytes, short and long.
func TestTheLeastTellsWhatTheMachineTells(t *testing.T) {
	m := mixer(7)
	told := map[int]int{}
	var all []byte
	for c := range 256 {
		all = append(all, byte(c))
	}
	for i := range 1500 {
		d := m.machine(1+m.below(1+i/50), 1+m.below(1+i/100), 1+m.below(3))
		if i%2 == 0 {
			d = m.grown(d, len(d.Next)+m.below(5))
		}
		var list []string
		for n := range 8 {
			list = append(list, string(m.text(string(all), n)), string(m.text("ab", n)))
		}
		list = append(list, string(m.text(string(all), m.below(300))))
		for rule, many := range tellsTheSame(t, d, list...) {
			told[rule] += many
		}
	}
	for rule := -1; rule <= 2; rule++ {
		if told[rule] < 500 {
			t.Errorf("the rule %d was told %d times", rule, told[rule])
		}
	}
}

// P12.3: the same of the patterns of a language, and texts that they take, nearly take, and don't; and of all short texts.
func TestTheLeastTellsWhatPatternsTell(t *testing.T) {
	d := machineOf(t, "if", "else", "[A-Za-z_][A-Za-z0-9_]*", "[0-9]+(\\.[0-9]+)?", "\"([^\"\\\\]|\\\\.)*\"", "[ \\t\\n]+", "=|==|<=|<")
	told := tellsTheSame(t, d, "if", "i", "iff", "If", "else", "elsee", "x_1", "_", "1x", "12", "12.", "12.5", ".5", "1.2.3", "\"\"", "\"a\\\"b\"", "\"a", "\"\\\"", " ", " \t\n", " a", "=", "==", "<=", "<", "=<", "===", "", "\x00", "\xff")
	for rule := -1; rule <= 6; rule++ {
		if told[rule] == 0 {
			t.Errorf("the rule %d was never told", rule)
		}
	}
	for _, patterns := range [][]string{
		{"a*", "b"},
		{"(a|b)*abb", "(a|b)*", "c"},
		{"ab|ac", "a(b|c)a", "[ab][bc]", "[^a]*"},
		{"", "a", "aa", "aaa", "aaaa", "a*"},
		{"abc", "ab", "[ab]c?", "[a-c]+"},
	} {
		tellsTheSame(t, machineOf(t, patterns...), texts("abc", 6)...)
	}
}

// P12.3: the same of machines of 512 states, and long texts.
func TestTheLeastTellsWhatGreatMachinesTell(t *testing.T) {
	m := mixer(8)
	for range 5 {
		d := m.grown(m.machine(1+m.below(300), 1+m.below(5), 1), 512)
		var list []string
		for range 50 {
			list = append(list, string(m.text("abcdefghijkl", m.below(40))))
		}
		tellsTheSame(t, d, list...)
	}
	d := ring(512)
	for _, n := range []int{0, 510, 511, 512, 1023, 8191, 8192} {
		tellsTheSame(t, d, string(make([]byte, n)))
	}
}

// put is a machine in another order of states: order tells where each is.
func put(d api.Dfa, order []int) api.Dfa {
	l := copied(d)
	for s, row := range d.Next {
		l.Rule[order[s]] = d.Rule[s]
		for k, to := range row {
			if to != -1 {
				to = order[to]
			}
			l.Next[order[s]][k] = to
		}
	}
	return l
}

// ofPatterns are some machines of patterns.
func ofPatterns(t *testing.T) (l []api.Dfa) {
	for _, patterns := range [][]string{
		{"if", "else", "[a-z]+", "[0-9]+(\\.[0-9]+)?", "[ ]+"},
		{"(a|b)*abb", "(a|b)*", "c"},
		{"abc", "ab", "[ab]c?", "[a-c]+"},
		{"a[^\\x00-\\xff]|b"},
	} {
		l = append(l, machineOf(t, patterns...))
	}
	return l
}

// P12.3: states put into another order, behind the beginning, leave the least machine what it is.
func TestTheLeastOfStatesInAnotherOrder(t *testing.T) {
	m := mixer(9)
	list := ofPatterns(t)
	for i := range 200 {
		list = append(list, m.machine(2+i/10, 1+m.below(4), 2))
	}
	for _, d := range list {
		want := made(t, d)
		order := []int{0}
		for _, s := range m.order(len(d.Next) - 1) {
			order = append(order, 1+s)
		}
		becomes(t, put(d, order), want)
	}
}

// P12.3: so do states that are doubled.
func TestTheLeastOfDoubledStates(t *testing.T) {
	m := mixer(10)
	list := ofPatterns(t)
	for i := range 200 {
		list = append(list, m.machine(1+i/10, 1+m.below(4), 2))
	}
	for _, d := range list {
		want := made(t, d)
		twice := copied(d)
		states := len(d.Next)
		for s, row := range d.Next {
			twice.Next, twice.Rule = append(twice.Next, slices.Clone(row)), append(twice.Rule, d.Rule[s])
		}
		for s, row := range twice.Next {
			for k, to := range row {
				if to != -1 && m.below(2) == 0 {
					twice.Next[s][k] = to + states
				}
			}
		}
		becomes(t, twice, want)
	}
}

// P12.3: so do dead states that are put in where one went nowhere, and others that are not reached.
func TestTheLeastOfDeadAndUnreachedStatesPutIn(t *testing.T) {
	m := mixer(11)
	list := ofPatterns(t)
	for i := range 200 {
		list = append(list, m.machine(1+i/10, 1+m.below(4), 2))
	}
	for _, d := range list {
		want := made(t, d)
		more := copied(d)
		states, many := len(d.Next), len(d.Next[0])
		for s := range more.Next {
			for k, to := range more.Next[s] {
				if to == -1 {
					more.Next[s][k] = states + m.below(2)
				}
			}
		}
		around, unreached := slices.Repeat([]int{states}, many), make([]int, many)
		around[0] = -1
		for k := range unreached {
			unreached[k] = m.below(states + 3)
		}
		more.Next = append(more.Next, slices.Repeat([]int{states + 1}, many), around, unreached)
		more.Rule = append(more.Rule, -1, -1, m.below(64))
		becomes(t, more, want)
	}
}

// P12.3: so do classes that are split, and put into another order.
func TestTheLeastOfSplitClasses(t *testing.T) {
	m := mixer(12)
	list := ofPatterns(t)
	for i := range 200 {
		list = append(list, m.machine(1+i/10, 1+m.below(4), 2))
	}
	for _, d := range list {
		want := made(t, d)
		split := api.Dfa{Next: make([][]int, len(d.Next)), Rule: d.Rule}
		for c, k := range m.order(256) {
			split.Class[c] = k
		}
		for s := range split.Next {
			split.Next[s] = make([]int, 256)
			for c, k := range split.Class {
				split.Next[s][k] = d.Next[s][d.Class[c]]
			}
		}
		becomes(t, split, want)
	}
}

// P12.3: so does all of this at once, also up to 512 states; and the least machine's least machine is itself.
func TestTheLeastOfGrownMachines(t *testing.T) {
	m := mixer(13)
	list := ofPatterns(t)
	for i := range 500 {
		list = append(list, m.machine(1+m.below(1+i/25), 1+m.below(5), 2))
	}
	for _, d := range list {
		want := made(t, d)
		becomes(t, want, want)
		for range 3 {
			becomes(t, m.grown(d, len(d.Next)+m.below(20)), want)
		}
		becomes(t, m.grown(want, len(d.Next)), want)
	}
	for i := range 4 {
		d := m.machine(1+m.below(400), 1+m.below(5+80*i), 1)
		becomes(t, m.grown(d, 512), made(t, d))
	}
}

// P12.3, P12.4: of all small machines: those that tell the same of all texts have the same least machine, others another one; none of them has fewer states. (Two machines of n and m states that differ do so at a text of fewer bytes than n + m.)
func TestAllSmallMachinesByWhatTheyTell(t *testing.T) {
	type kind struct {
		least  api.Dfa
		fewest int
	}
	kinds := map[string]*kind{}
	list := append(texts("abx", 4), "aaaaa") // machines of three states have one class here
	for _, size := range [][3]int{{1, 1, 2}, {1, 2, 2}, {1, 3, 1}, {2, 1, 2}, {2, 2, 2}, {2, 3, 1}, {3, 1, 2}} {
		smallMachines(size[0], size[1], size[2], func(d api.Dfa) {
			l := made(t, d)
			var tells []byte
			for _, text := range list {
				tells = append(tells, byte('1'+ran(t, d, text)))
			}
			k := kinds[string(tells)]
			if k == nil {
				k = &kind{l, len(d.Next)}
				kinds[string(tells)] = k
			}
			k.fewest = min(k.fewest, len(d.Next))
			if !equal(k.least, l) {
				t.Fatalf("%v: %v, of another that tells the same %v", d, l, k.least)
			}
		})
	}
	for tells, k := range kinds {
		if len(k.least.Next) != k.fewest {
			t.Errorf("%s: %d states, another has %d", tells, len(k.least.Next), k.fewest)
		}
		for other, o := range kinds {
			if other != tells && equal(k.least, o.least) {
				t.Fatalf("%s and %s have the same least machine: %v", tells, other, k.least)
			}
		}
	}
}

// tellLengths are, of each two of a machine's states (nowhere behind all of them), how many bytes the shortest text has that tells them apart; some great number, if none does.
func tellLengths(d api.Dfa) [][]int {
	const none = 1 << 30
	rules, bytes := append(slices.Clone(d.Rule), -1), each(d)
	l := make([][]int, len(rules))
	for a := range l {
		for b := range rules {
			n := none
			if rules[a] != rules[b] {
				n = 0
			}
			l[a] = append(l[a], n)
		}
	}
	for again := true; again; {
		again = false
		for a := range l {
			for b := range a {
				for _, c := range bytes {
					if n := 1 + l[goes(d, a, c)][goes(d, b, c)]; n < l[a][b] {
						l[a][b], l[b][a], again = n, n, true
					}
				}
			}
		}
	}
	return l
}

// isLeast fails unless a least machine's states are all reached, told apart by texts of fewer bytes than there are states, and come to a rule; and its classes are told apart.
func isLeast(t *testing.T, d api.Dfa) (longest int) {
	t.Helper()
	if l := reached(d, 0); len(l) != len(d.Next) || !slices.IsSorted(l) {
		t.Fatalf("%v: reached %v", d, l)
	}
	lengths := tellLengths(d)
	for a := range d.Next {
		for b := range a {
			if lengths[a][b] >= len(d.Next) {
				t.Fatalf("%v: %d and %d are told apart by %d bytes", d, a, b, lengths[a][b])
			}
			longest = max(longest, lengths[a][b])
		}
		isDead := !slices.ContainsFunc(reached(d, a), func(s int) bool { return d.Rule[s] != -1 })
		if isDead && !equal(d, none()) {
			t.Fatalf("%v: %d is dead", d, a)
		}
	}
	var columns [][]int
	for k := range d.Next[0] {
		var column []int
		for _, row := range d.Next {
			column = append(column, row[k])
		}
		if slices.ContainsFunc(columns, func(other []int) bool { return slices.Equal(column, other) }) {
			t.Fatalf("%v: the class %d is as one ahead", d, k)
		}
		columns = append(columns, column)
	}
	return longest
}

// P12.4: no machine that tells the same has fewer states than the least one: of this, all states are reached, and some text tells each two apart, of fewer bytes than it has states; from each but a dead beginning some text comes to a rule.
func TestTheLeastIsLeast(t *testing.T) {
	m := mixer(14)
	list := append(ofPatterns(t), chain(60, 1, 0), ring(60), allRule(chain(60, 1, 0), 0), none(), butOne(m.text("ab", 20), 1))
	for i := range 800 {
		d := m.machine(1+m.below(1+i/40), 1+m.below(4), 1+m.below(2))
		list = append(list, d, m.grown(d, len(d.Next)+m.below(5)))
	}
	for _, d := range list {
		isLeast(t, made(t, d))
	}
	for _, n := range []int{1, 2, 3, 20} {
		// It can't be told of fewer bytes.
		if longest := isLeast(t, made(t, allRule(chain(n, 1, 0), 0))); longest != n-1 {
			t.Errorf("%d states: %d bytes", n, longest)
		}
	}
}
