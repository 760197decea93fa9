package least_test

import (
	"math"
	"slices"
	"testing"

	"incunable/api"
	"incunable/dfa"
	"incunable/least"
)

// roomy is a machine with spare room behind its lists, in which stands what may not be.
func roomy(d api.Dfa) api.Dfa {
	d = copied(d)
	next, rule := len(d.Next), len(d.Rule)
	d.Next = append(d.Next, []int{-9}, nil)[:next]
	d.Rule = append(d.Rule, -9, 99, -9)[:rule]
	for i, row := range d.Next {
		d.Next[i] = append(row, -9, 999)[:len(row)]
	}
	return d
}

// whole is a machine with its spare room.
func whole(d api.Dfa) api.Dfa {
	d.Next, d.Rule = slices.Clone(d.Next[:cap(d.Next)]), d.Rule[:cap(d.Rule)]
	for i, row := range d.Next {
		d.Next[i] = row[:cap(row)]
	}
	return d
}

// spoil writes over all lists of a machine, their spare room too.
func spoil(d api.Dfa) {
	spoilList(d.Rule)
	rows := d.Next[:cap(d.Next)]
	for s, row := range rows {
		spoilList(row)
		rows[s] = []int{-9}
	}
}

func spoilList(l []int) {
	l = l[:cap(l)]
	for i := range l {
		l[i] = -9
	}
}

// some are machines of all sorts, least ones with them.
func (m *mixer) some(t *testing.T, n int) []api.Dfa {
	list := append(ofPatterns(t), none(), ring(60), chain(40, 256, 3))
	for i := range n {
		d := m.machine(1+m.below(1+i*20/n), 1+m.below(5), 1+m.below(3))
		list = append(list, d, m.grown(d, len(d.Next)+m.below(9)), made(t, d))
	}
	return list
}

// P12.2: machines are only read, their spare room too, and what stands there has no say; also of machines that may not be.
func TestMachinesAreOnlyRead(t *testing.T) {
	m := mixer(15)
	list := m.some(t, 300)
	for range 2000 {
		list = append(list, m.junk(m.below(4), m.below(4)))
	}
	for i, plain := range list {
		d, other := roomy(plain), roomy(list[(i+1)%len(list)])
		was, wasOther := copied(whole(d)), copied(whole(other))
		l, e := least.Of(d)
		is, f := least.Same(d, other)
		if !equal(whole(d), was) || !equal(whole(other), wasOther) {
			t.Fatalf("%v or %v were changed", was, wasOther)
		}
		want, wantErrno := least.Of(plain)
		wantSame, wantOther := least.Same(plain, list[(i+1)%len(list)])
		if !equal(l, want) || e != wantErrno || is != wantSame || f != wantOther {
			t.Fatal("what stands around it had a say")
		}
	}
}

// P12.2: what is answered shares no memory with what was handed in, also if it is the same machine; and that is not kept.
func TestMachinesAreNotKept(t *testing.T) {
	m := mixer(16)
	for _, plain := range m.some(t, 300) {
		d, other := roomy(plain), roomy(plain)
		want := copied(made(t, plain))
		l := made(t, d)
		areSame(t, d, other, true)
		spoil(d)
		spoil(other)
		if !equal(l, want) {
			t.Fatalf("%v became %v", want, l)
		}
		d = roomy(plain)
		was := copied(whole(d))
		spoil(made(t, d))
		if !equal(whole(d), was) {
			t.Fatalf("%v became %v", was, whole(d))
		}
		becomes(t, plain, want)
		areSame(t, plain, want, true)
	}
}

// P12.2: two answers share no memory, nor their spare room.
func TestAnswersAreNewMemory(t *testing.T) {
	m := mixer(17)
	for _, d := range m.some(t, 300) {
		want := copied(made(t, d))
		a, b := made(t, d), made(t, d)
		spoil(a)
		if !equal(b, want) || !equal(made(t, d), want) {
			t.Fatalf("%v became %v", want, b)
		}
		becomes(t, copied(d), want)
	}
}

// P12.2: no two lists of one answer share memory, nor their spare room.
func TestListsOfOneAnswerShareNone(t *testing.T) {
	m := mixer(18)
	for _, d := range m.some(t, 200) {
		l := made(t, d)
		want := copied(l)
		for s, row := range l.Next {
			spoilList(row)
			for other := s + 1; other < len(l.Next); other++ {
				if !slices.Equal(l.Next[other], want.Next[other]) {
					t.Fatalf("%v: the states %d and %d share memory", d, s, other)
				}
			}
		}
		if !slices.Equal(l.Rule, want.Rule) {
			t.Fatalf("%v: rules share memory", d)
		}
		l = made(t, d)
		spoilList(l.Rule)
		if !slices.EqualFunc(l.Next, want.Next, slices.Equal) {
			t.Fatalf("%v: rules share memory", d)
		}
	}
}

// junk is a machine of numbers of all sorts, which seldom may be.
func (m *mixer) junk(states, classes int) (d api.Dfa) {
	numbers := []int{0, 0, 0, 1, 1, 2, 3, 4, -1, -1, -2, 63, 64, 255, 256, 511, 512, 513, math.MaxInt, math.MinInt, math.MaxInt32, math.MinInt32, 1 << 40}
	number := func() int {
		if m.below(8) > 0 {
			return m.below(3) - 1
		}
		return numbers[m.below(len(numbers))]
	}
	for range states {
		row := make([]int, classes)
		if m.below(20) == 0 {
			row = make([]int, m.below(4))
		}
		for k := range row {
			row[k] = number()
		}
		d.Next = append(d.Next, row)
		if m.below(20) > 0 {
			d.Rule = append(d.Rule, number())
		}
	}
	if m.below(2) == 0 {
		d.Class[m.below(256)] = number()
	}
	return d
}

// R1, P12.1: no call panics, or goes on for ever, whatever machines it is handed; each tells dfa.Check's error.
func TestNoCallPanics(t *testing.T) {
	m := mixer(19)
	fine, last := 0, none()
	ask := func(d api.Dfa) {
		e, ofLast := dfa.Check(d), dfa.Check(last)
		l, ofOf := least.Of(d)
		is, ofSame := least.Same(last, d)
		if e == api.OK {
			fine++
		}
		if ofOf != e || e == api.OK && dfa.Check(l) != api.OK || e != api.OK && !equal(l, api.Dfa{}) {
			t.Fatalf("Of(%v) = %v, %d, want %d", d, l, ofOf, e)
		}
		want := ofLast
		if want == api.OK {
			want = e
		}
		if ofSame != want || want != api.OK && is {
			t.Fatalf("Same(%v, %v) = %t, %d, want %d", last, d, is, ofSame, want)
		}
		last = d
	}
	for range 10000 {
		ask(m.junk(m.below(5), m.below(4)))
	}
	for _, n := range []int{0, 1, 256, 257, 512, 513, 20000} {
		ask(m.junk(n, 1))
		ask(m.junk(1, n))
		ask(api.Dfa{Next: make([][]int, n), Rule: make([]int, n)})
		ask(api.Dfa{Next: make([][]int, n)})
		ask(api.Dfa{Rule: make([]int, n)})
		ask(api.Dfa{Next: [][]int{make([]int, n), nil}, Rule: []int{0, 0}})
	}
	if fine < 500 {
		t.Errorf("%d machines could be", fine)
	}
}

// R2: calls are answered the same each time, whatever was asked ahead, and at the same time.
func TestCallsAtTheSameTime(t *testing.T) {
	const calls = 8
	m := mixer(20)
	list := m.some(t, 20)
	answers := func(from int) (out []int) {
		told := make([][]int, len(list))
		for i := range list {
			at := (from + i) % len(list)
			l, e := least.Of(list[at])
			is, f := least.Same(list[at], list[0])
			told[at] = slices.Concat(l.Class[:], slices.Concat(l.Next...), l.Rule, []int{int(e), int(f)})
			if is {
				told[at] = append(told[at], 1)
			}
		}
		return slices.Concat(told...)
	}
	want := answers(0)
	wrong := make(chan bool, calls)
	for i := range calls {
		go func() { wrong <- !slices.Equal(answers(i), want) }()
	}
	for range calls {
		if <-wrong {
			t.Error("other answers")
		}
	}
}
