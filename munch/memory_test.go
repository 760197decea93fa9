package munch_test

import (
	"bytes"
	"iter"
	"math"
	"slices"
	"testing"

	"incunable/api"
	"incunable/dfa"
	"incunable/munch"
)

// equal compares all of two machines; lists without elements are alike.
func equal(a, b api.Dfa) bool {
	return a.Class == b.Class && slices.EqualFunc(a.Next, b.Next, slices.Equal) && slices.Equal(a.Rule, b.Rule)
}

// copied is a machine of its own memory.
func copied(d api.Dfa) api.Dfa {
	d.Next, d.Rule = slices.Clone(d.Next), slices.Clone(d.Rule)
	for i, row := range d.Next {
		d.Next[i] = slices.Clone(row)
	}
	return d
}

// roomy is a machine with spare room behind its lists, in which stands what may not be.
func roomy(d api.Dfa) api.Dfa {
	d = copied(d)
	next, rule := len(d.Next), len(d.Rule)
	d.Next = append(d.Next, []int{-9}, nil)[:next]
	d.Rule = append(d.Rule, -9, 99, -9)[:rule]
	for i, row := range d.Next {
		d.Next[i] = append(row, -9, 999)[:len(row)]
	}
	return d
}

// roomyText is a text with spare room behind it, in which bytes stand that could go on with it.
func roomyText(text string) []byte {
	return append([]byte(text), text+"abcdef"...)[:len(text)]
}

// whole is a machine with its spare room.
func whole(d api.Dfa) api.Dfa {
	d.Next, d.Rule = slices.Clone(d.Next[:cap(d.Next)]), d.Rule[:cap(d.Rule)]
	for i, row := range d.Next {
		d.Next[i] = row[:cap(row)]
	}
	return d
}

// spoil writes over all of a machine and a text, their spare room too.
func spoil(d api.Dfa, text []byte) {
	rows := d.Next[:cap(d.Next)]
	for s, row := range rows {
		for k := range row {
			row[k] = -9
		}
		rows[s] = []int{-9}
	}
	for s := range d.Rule[:cap(d.Rule)] {
		d.Rule[:cap(d.Rule)][s] = -9
	}
	for i := range text[:cap(text)] {
		text[:cap(text)][i] = '!'
	}
}

// P13.4: machines and texts are only read, their spare room too, and what stands there has no say; also of machines that may not be.
func TestWhatIsHandedInIsOnlyRead(t *testing.T) {
	m := mixer(7)
	list := samples(t)
	for range 1000 {
		list = append(list, sample{m.junk(m.below(4), m.below(4)), m.text("abcdef", m.below(9))})
	}
	for _, s := range list {
		d, text := roomy(s.d), roomyText(s.text)
		was, wasText := copied(whole(d)), bytes.Clone(text[:cap(text)])
		token, ofNext := munch.Next(d, text, 0)
		l, at, ofCut := munch.Cut(d, text)
		all := slices.Collect(munch.All(d, text))
		if !equal(whole(d), was) || !bytes.Equal(text[:cap(text)], wasText) {
			t.Fatalf("%v, %q were changed", was, wasText)
		}
		wantToken, wantNext := munch.Next(s.d, []byte(s.text), 0)
		want, wantAt, wantCut := munch.Cut(s.d, []byte(s.text))
		if token != wantToken || ofNext != wantNext || !slices.Equal(l, want) || at != wantAt || ofCut != wantCut || !slices.Equal(all, want) {
			t.Fatal("what stands around it had a say")
		}
	}
}

// P13.4: neither the machine nor the text is kept: All tells what it would have told when it was called, also if they have become others, ahead of a range or on its way.
func TestWhatIsHandedInIsNotKept(t *testing.T) {
	for _, s := range samples(t) {
		want, _, _ := munch.Cut(s.d, []byte(s.text))
		want = slices.Clone(want)
		d, text := roomy(s.d), roomyText(s.text)
		l, _, _ := munch.Cut(d, text)
		all := munch.All(d, text)
		spoil(d, text)
		if !slices.Equal(l, want) {
			t.Fatalf("%v became %v", want, l)
		}
		for range 2 {
			if got := slices.Collect(all); !slices.Equal(got, want) {
				t.Fatalf("%v, want %v", got, want)
			}
		}
		d, text = roomy(s.d), roomyText(s.text)
		var got []api.Token
		for token := range munch.All(d, text) {
			spoil(d, text)
			got = append(got, token)
		}
		if !slices.Equal(got, want) {
			t.Fatalf("on its way: %v, want %v", got, want)
		}
	}
}

// spoilTokens writes over a list, its spare room too.
func spoilTokens(l []api.Token) {
	l = l[:cap(l)]
	for i := range l {
		l[i] = tokenOf(-9, -9, -9)
	}
}

// P13.4: two answers share no memory, nor their spare room, and none is kept.
func TestAnswersAreNewMemory(t *testing.T) {
	for _, s := range samples(t) {
		d, text := copied(s.d), []byte(s.text)
		a, _, _ := munch.Cut(d, text)
		want := slices.Clone(a)
		b, _, _ := munch.Cut(d, text)
		all, other := munch.All(d, text), munch.All(d, text)
		spoilTokens(a)
		if !slices.Equal(b, want) {
			t.Fatalf("%v became %v", want, b)
		}
		spoilTokens(slices.Collect(all))
		for _, some := range []iter.Seq[api.Token]{all, other, munch.All(d, text)} {
			if got := slices.Collect(some); !slices.Equal(got, want) {
				t.Fatalf("%v, want %v", got, want)
			}
		}
		if !equal(d, s.d) || string(text) != s.text {
			t.Fatal("what was handed in was answered")
		}
	}
}

// junk is a machine of numbers of all sorts, which seldom may be.
func (m *mixer) junk(states, classes int) (d api.Dfa) {
	numbers := []int{0, 0, 0, 1, 1, 2, 3, 4, -1, -1, -2, 63, 64, 255, 256, 511, 512, 513, math.MaxInt, math.MinInt, math.MaxInt32, math.MinInt32, 1 << 40}
	number := func() int {
		if m.below(8) > 0 {
			return m.below(3) - 1
		}
		return numbers[m.below(len(numbers))]
	}
	for range states {
		row := make([]int, classes)
		if m.below(20) == 0 {
			row = make([]int, m.below(4))
		}
		for k := range row {
			row[k] = number()
		}
		d.Next = append(d.Next, row)
		if m.below(20) > 0 {
			d.Rule = append(d.Rule, number())
		}
	}
	if m.below(2) == 0 {
		d.Class[m.below(256)] = number()
	}
	return d
}

// wantedNext is the error that Next is to tell; OK, if there may be a token.
func wantedNext(d api.Dfa, text []byte, at int) api.Errno {
	e := dfa.Check(d)
	switch {
	case e != api.OK:
		return e
	case len(text) > 8192:
		return api.ErrLimit
	case at < 0 || at > len(text):
		return api.ErrRange
	case at == len(text):
		return api.ErrTrunc
	}
	return api.OK
}

// R1, P13.1, P13.2: no call panics, or goes on for ever, whatever it is handed; each tells the first error that there is.
func TestNoCallPanics(t *testing.T) {
	m := mixer(8)
	list := [][]byte{nil, {}, []byte("a"), []byte("\x00\xff"), []byte(m.text("ab", 100)), []byte(m.text("abcdef", 20)), make([]byte, 8192), make([]byte, 8193)}
	fine, tokens := 0, 0
	ask := func(d api.Dfa) {
		text := list[m.below(len(list))]
		at := []int{0, 0, 1, 2, len(text) - 1, len(text), len(text) + 1, -1, math.MinInt, math.MaxInt}[m.below(10)]
		token, e := munch.Next(d, text, at)
		want := wantedNext(d, text, at)
		if e != want && (want != api.OK || e != api.ErrScan) || e != api.OK && token != (api.Token{}) {
			t.Fatalf("Next(%v, %.40q, %d) = %v, %d, want %d", d, text, at, token, e, want)
		}
		if want = wantedNext(d, text, len(text)); want == api.ErrTrunc {
			fine++
			want = api.OK
		}
		l, place, e := munch.Cut(d, text)
		tokens += len(l)
		isFine := e == want && place == 0 && (e == api.OK || len(l) == 0)
		if e == api.ErrScan {
			isFine = want == api.OK && place < len(text) && (place == 0) == (len(l) == 0)
		}
		if !isFine || !slices.Equal(slices.Collect(munch.All(d, text)), l) {
			t.Fatalf("Cut(%v, %.40q) = %v, %d, %d, want %d", d, text, l, place, e, want)
		}
	}
	for range 10000 {
		ask(m.junk(m.below(5), m.below(4)))
	}
	for _, n := range []int{0, 1, 256, 257, 512, 513, 20000} {
		ask(m.junk(n, 1))
		ask(m.junk(1, n))
		ask(api.Dfa{Next: make([][]int, n), Rule: make([]int, n)})
		ask(api.Dfa{Next: make([][]int, n)})
		ask(api.Dfa{Rule: make([]int, n)})
		ask(api.Dfa{Next: [][]int{make([]int, n), nil}, Rule: []int{0, 0}})
	}
	if fine < 500 || tokens < 1000 {
		t.Errorf("%d machines could be, %d tokens", fine, tokens)
	}
}

// R2: calls are answered the same each time, whatever was asked ahead, and at the same time; one answer of All is ranged over at the same time, too.
func TestCallsAtTheSameTime(t *testing.T) {
	const calls = 8
	list := samples(t)
	var alls []iter.Seq[api.Token]
	for _, s := range list {
		alls = append(alls, munch.All(s.d, []byte(s.text)))
	}
	answers := func(from int) (out []api.Token) {
		told := make([][]api.Token, len(list))
		for i := range list {
			at := (from + i) % len(list)
			text := []byte(list[at].text)
			token, e := munch.Next(list[at].d, text, 0)
			l, place, f := munch.Cut(list[at].d, text)
			told[at] = append(slices.Concat(l, slices.Collect(alls[at])), token, tokenOf(int(e), place, int(f)))
		}
		return slices.Concat(told...)
	}
	want := answers(0)
	wrong := make(chan bool, calls)
	for i := range calls {
		go func() { wrong <- !slices.Equal(answers(i), want) }()
	}
	for range calls {
		if <-wrong {
			t.Error("other answers")
		}
	}
}
