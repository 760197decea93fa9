package dfa_test

import (
	"math"
	"strings"
	"testing"

	"incunable/api"
	"incunable/dfa"
)

// example is the machine of the chapter's example.
func example() api.Dfa {
	return api.Dfa{Class: classes("ab"), Next: [][]int{{-1, 1, 2}, {-1, 1, -1}, {-1, -1, -1}}, Rule: []int{0, 0, 1}}
}

// P11.2: each state, behind each byte, goes where the class of the byte leads.
func TestStepBehindEachByte(t *testing.T) {
	d := example()
	for s, row := range d.Next {
		for c := range 256 {
			want := row[0]
			if c == 'a' {
				want = row[1]
			} else if c == 'b' {
				want = row[2]
			}
			if to := stepped(t, d, s, byte(c)); to != want {
				t.Errorf("from %d behind %d: %d, want %d", s, c, to, want)
			}
		}
	}
}

// P11.2: the same of machines of all sorts, small and great.
func TestStepOfMachines(t *testing.T) {
	m := mixer(4)
	for _, size := range [][2]int{{1, 1}, {1, 256}, {2, 3}, {9, 7}, {100, 256}, {512, 4}, {512, 256}} {
		d := m.machine(size[0], size[1])
		for range 300 {
			s, c := m.below(size[0]), m.below(256)
			if to := stepped(t, d, s, byte(c)); to != d.Next[s][d.Class[c]] {
				t.Fatalf("from %d behind %d: %d", s, c, to)
			}
		}
		if to := stepped(t, d, size[0]-1, 255); to != d.Next[size[0]-1][d.Class[255]] {
			t.Errorf("from the last: %d", to)
		}
	}
}

// P11.2: states that there are not.
func TestStepOfStatesThatThereAreNot(t *testing.T) {
	m := mixer(5)
	for _, states := range []int{1, 2, 3, 512} {
		d := m.machine(states, 3)
		for _, wrong := range []int{-1, -2, states, states + 1, 513, math.MinInt, math.MaxInt} {
			if to, e := dfa.Step(d, wrong, 'a'); e != api.ErrRange || to != 0 {
				t.Errorf("%d states, from %d: %d, %d", states, wrong, to, e)
			}
		}
	}
}

// P11.2: Check's error is told ahead of ErrRange, and ahead of ErrLimit of the text.
func TestCheckFirst(t *testing.T) {
	for _, c := range []struct {
		d    api.Dfa
		want api.Errno
	}{{api.Dfa{}, api.ErrArg}, {plain(513, 1), api.ErrLimit}, {api.Dfa{Next: [][]int{{1}}, Rule: []int{0}}, api.ErrArg}} {
		for _, state := range []int{-1, 513, 0} {
			if to, e := dfa.Step(c.d, state, 0); e != c.want || to != 0 {
				t.Errorf("Step: %d, %d, want %d", to, e, c.want)
			}
		}
		for _, length := range []int{0, 8192, 8193} {
			if rule, e := dfa.Run(c.d, make([]byte, length)); e != c.want || rule != 0 {
				t.Errorf("Run: %d, %d, want %d", rule, e, c.want)
			}
		}
	}
}

// P11.2: of no bytes the beginning's rule is told.
func TestRunOfNoBytes(t *testing.T) {
	for _, rule := range []int{-1, 0, 1, 63} {
		d := plain(3, 2)
		d.Rule = []int{rule, 7, 7}
		d.Next[0] = []int{1, 2}
		for _, none := range [][]byte{nil, {}} {
			if got, e := dfa.Run(d, none); got != rule || e != api.OK {
				t.Errorf("%d, %d, want %d", got, e, rule)
			}
		}
	}
}

// P11.2: the rule of the state to which a text leads; -1, if the machine goes nowhere on the way, whatever is behind.
func TestRun(t *testing.T) {
	d := api.Dfa{Class: classes("ab"), Next: [][]int{{-1, 1, 0}, {2, -1, 0}, {-1, 2, 3}, {-1, -1, -1}}, Rule: []int{4, -1, 63, 0}}
	for text, want := range map[string]int{
		"": 4, "a": -1, "b": 4, "bbbb": 4, "ab": 4, "aba": -1, "ac": 63, "a\x00": 63, "a\xffaaa": 63, "acb": 0, "acab": 0,
		"c": -1, "cb": -1, "cac": -1, "aa": -1, "aab": -1, "aac": -1, "acba": -1, "acbb": -1, "acc": -1, "acca": -1, "bbca": -1,
	} {
		if rule := ran(t, d, text); rule != want {
			t.Errorf("Run(%q) = %d, want %d", text, rule, want)
		}
	}
	for text, want := range map[string]int{"aa": 0, "b": 1, "ab": -1, "": 0, "ba": -1, "c": -1} {
		if rule := ran(t, example(), text); rule != want {
			t.Errorf("Run(%q) = %d, want %d", text, rule, want)
		}
	}
}

// P11.2: texts of 8192 bytes, and of one more, also those on whose way the machine goes nowhere.
func TestRunOfLongTexts(t *testing.T) {
	d := example()
	for _, c := range []struct {
		text string
		want int
	}{
		{strings.Repeat("a", 8191), 0},
		{strings.Repeat("a", 8192), 0},
		{strings.Repeat("a", 8191) + "b", -1},
		{"b" + strings.Repeat("a", 8191), -1},
		{strings.Repeat("c", 8192), -1},
	} {
		if rule := ran(t, d, c.text); rule != c.want {
			t.Errorf("of %d bytes: %d, want %d", len(c.text), rule, c.want)
		}
	}
	for _, length := range []int{8193, 8194, 100000} {
		for _, letter := range []string{"a", "c"} {
			if rule, e := dfa.Run(d, []byte(strings.Repeat(letter, length))); rule != 0 || e != api.ErrLimit {
				t.Errorf("of %d bytes: %d, %d", length, rule, e)
			}
		}
	}
}

// P11.2: a ring of 512 states is gone around, each byte counted.
func TestRunAroundARing(t *testing.T) {
	d := plain(512, 1)
	for s := range d.Next {
		d.Next[s][0] = (s + 1) % 512
		d.Rule[s] = s % 64
	}
	for _, length := range []int{0, 1, 63, 64, 511, 512, 513, 8191, 8192} {
		if rule := ran(t, d, strings.Repeat("x", length)); rule != length%64 {
			t.Errorf("of %d bytes: %d", length, rule)
		}
	}
}

// P11.2: Run is what Step tells, byte by byte.
func TestRunIsStepByStep(t *testing.T) {
	m := mixer(6)
	told := map[bool]int{}
	for i := range 3000 {
		d := m.machine(1+m.below(1+i/100), 1+m.below(4))
		text := string(m.text("abcdefgh", m.below(9)))
		state := 0
		for j := 0; j < len(text) && state != -1; j++ {
			state = stepped(t, d, state, text[j])
		}
		want := -1
		if state != -1 {
			want = d.Rule[state]
		}
		if rule := ran(t, d, text); rule != want {
			t.Fatalf("%v: Run(%q) = %d, want %d", d, text, rule, want)
		}
		told[want == -1]++
	}
	if told[true] < 500 || told[false] < 500 {
		t.Errorf("%v", told)
	}
}
