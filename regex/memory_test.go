package regex_test

import (
	"bytes"
	"math"
	"slices"
	"strings"
	"testing"

	"incunable/api"
	"incunable/regex"
)

// P9.4: nodes and texts are only read, what stands around them and their spare room too, and have no say there.
func TestWhatIsHandedInIsOnlyRead(t *testing.T) {
	m := mixer(18)
	list := m.someSets(30)
	odd := api.RNode{Kind: 99, Set: full(), A: -7, B: 1 << 40}
	for range 500 {
		l := m.tree(1+m.below(30), list).nodes(nil)
		room := slices.Concat(slices.Repeat([]api.RNode{odd}, 3), l, slices.Repeat([]api.RNode{odd}, 9))
		wasRoom := slices.Clone(room)
		x := api.Rex{L: room[3 : 3+len(l)]}
		text := m.text("ab", m.below(20))
		memory := []byte("before" + text + "behind it")
		was := bytes.Clone(memory)
		is, _ := regex.Takes(x, memory[6:6+len(text)])
		isNil, _ := regex.Nil(x)
		s, ofPrint := regex.Print(x)
		e := regex.Check(x)
		if !slices.Equal(room, wasRoom) || !bytes.Equal(memory, was) {
			t.Fatalf("%v, %q were changed", l, text)
		}
		y := api.Rex{L: slices.Clone(l)}
		other, _ := regex.Takes(y, []byte(text))
		otherNil, _ := regex.Nil(y)
		otherS, otherOfPrint := regex.Print(y)
		if is != other || isNil != otherNil || s != otherS || ofPrint != otherOfPrint || e != api.OK {
			t.Fatalf("%v: what stands around it had a say", l)
		}
	}
}

// P9.4: what may not be is only read, too.
func TestWhatMayNotBeIsOnlyRead(t *testing.T) {
	m := mixer(19)
	for range 2000 {
		l := m.junk(1 + m.below(6))
		was := slices.Clone(l)
		x := api.Rex{L: l}
		regex.Check(x)
		regex.Nil(x)
		regex.Print(x)
		regex.Takes(x, []byte("ab"))
		if !slices.Equal(l, was) {
			t.Fatalf("%v became %v", was, l)
		}
	}
}

// P9.4: what Print answers stays, whatever becomes of the nodes.
func TestNodesAreNotKept(t *testing.T) {
	m := mixer(20)
	list := m.someSets(30)
	for range 300 {
		l := m.tree(1+m.below(12), list).nodes(nil)
		x := api.Rex{L: l}
		s, e := regex.Print(x)
		was := strings.Clone(s)
		for i := range l {
			l[i] = api.RNode{Kind: api.RexNil, Set: full()}
		}
		again, _ := regex.Print(x)
		if s != was || e == api.OK && again != "" {
			t.Fatalf("%q became %q, and was printed anew as %q", was, s, again)
		}
	}
}

// P9.4: two answers of Parse share no memory, their spare room neither; what is done to one is not seen in the next.
func TestAnswersShareNoMemory(t *testing.T) {
	m := mixer(21)
	for range 500 {
		p := m.pattern(2)
		x, _, e := regex.Parse(p)
		y, _, _ := regex.Parse(p)
		if e != api.OK {
			continue
		}
		was := slices.Clone(x.L)
		room := x.L[:cap(x.L)]
		for i := range room {
			room[i] = api.RNode{Kind: 99, Set: full(), A: -1, B: -1}
		}
		z, _, _ := regex.Parse(p)
		if !slices.Equal(y.L, was) || !slices.Equal(z.L, was) {
			t.Fatalf("%q: %v, then %v", p, y.L, z.L)
		}
	}
}

// P9.4: what Parse answered can be handed in, and stays as it is.
func TestParsedIsHandedIn(t *testing.T) {
	x := parsed(t, "(a|b)*[^c]+")
	was := slices.Clone(x.L)
	for range 3 {
		printed(t, x)
		takes(t, x, "abd")
		regex.Nil(x)
		regex.Check(x)
	}
	if !slices.Equal(x.L, was) {
		t.Errorf("%v became %v", was, x.L)
	}
}

// junk are nodes of numbers of all sorts, some of which may be.
func (m *mixer) junk(n int) []api.RNode {
	numbers := []int{0, 0, 0, 1, 1, 2, 3, -1, -2, n - 2, n - 1, n, 255, 256, 257, math.MaxInt, math.MinInt, math.MaxInt32, math.MinInt32, 1 << 40}
	sets := []api.Set{{}, {}, {}, full(), those('a')}
	l := make([]api.RNode, n)
	for i := range l {
		l[i] = api.RNode{Kind: m.below(9) - 1, Set: sets[m.below(len(sets))], A: numbers[m.below(len(numbers))], B: numbers[m.below(len(numbers))]}
		if m.below(2) == 0 {
			l[i].A, l[i].B = max(i-2, 0), max(i-1, 0)
		}
	}
	return l
}

// R1: no call panics, or goes on for ever, whatever nodes and texts it is handed.
func TestNoCallPanics(t *testing.T) {
	m := mixer(22)
	texts := [][]byte{nil, {}, []byte("a"), m.bytes(100), make([]byte, 8192), make([]byte, 8193)}
	ask := func(l []api.RNode) {
		x := api.Rex{L: l}
		e := regex.Check(x)
		if _, ofNil := regex.Nil(x); ofNil != e {
			t.Fatalf("%v: Check %d, Nil %d", l, e, ofNil)
		}
		regex.Print(x)
		regex.Takes(x, texts[m.below(len(texts))])
	}
	for range 20000 {
		ask(m.junk(m.below(9)))
	}
	for _, n := range []int{0, 1, 255, 256, 257, 100000} {
		ask(m.junk(n))
		ask(make([]api.RNode, n))
	}
}

// R1: no call panics, whatever bytes it is to parse.
func TestNoParsePanics(t *testing.T) {
	m := mixer(23)
	ask := func(p string) {
		x, at, e := regex.Parse(p)
		switch {
		case e == api.OK && at == 0 && regex.Check(x) == api.OK:
		case e == api.ErrPattern && 0 <= at && at <= len(p) && len(x.L) == 0:
		case e == api.ErrLimit && at == 0 && len(x.L) == 0:
		default:
			t.Fatalf("Parse(%q) = %v, %d, %d", p, x.L, at, e)
		}
	}
	for range 20000 {
		ask(string(m.bytes(m.below(20))))
		ask(m.text("()[]|*+?.\\/^-xnab09", m.below(40)))
		ask(m.text("()|a*", m.below(1100)))
	}
	for _, p := range []string{"(", "[", `\`, "|", "a", "()", "(|", `\x`, "[^", "a-", "*", "\xff", "\x00", "(a", "a)"} {
		for _, n := range []int{1, 2, 100, 341, 511, 512, 513, 1023, 1024, 1025, 100000} {
			ask(strings.Repeat(p, n))
		}
	}
	ask(strings.Repeat("x", 1<<24))
}

// R2: calls are answered the same each time, and at the same time.
func TestCallsAtTheSameTime(t *testing.T) {
	const calls = 8
	m := mixer(24)
	var patterns []string
	for range 200 {
		patterns = append(patterns, m.pattern(3), m.text("ab()[]|*", 8))
	}
	answers := func() (l []string) {
		for _, p := range patterns {
			x, at, e := regex.Parse(p)
			s, ofPrint := regex.Print(x)
			is, ofTakes := regex.Takes(x, []byte("ab"))
			l = append(l, strings.Repeat("a", at), e.Error(), s, ofPrint.Error(), ofTakes.Error())
			if is {
				l = append(l, "takes")
			}
		}
		return l
	}
	want := answers()
	wrong := make(chan bool, calls)
	for range calls {
		go func() { wrong <- !slices.Equal(answers(), want) }()
	}
	for range calls {
		if <-wrong {
			t.Error("other answers")
		}
	}
}
