package munch_test

import (
	"iter"
	"slices"
	"strings"
	"testing"

	"incunable/api"
	"incunable/munch"
)

// firstOf are the first tokens that a function tells, till there are so many; it wants no more then.
func firstOf(all iter.Seq[api.Token], most int) (l []api.Token) {
	for token := range all {
		l = append(l, token)
		if len(l) >= most {
			break
		}
	}
	return l
}

// A sample is a machine and a text, which is cut by it in whole or in part.
type sample struct {
	d    api.Dfa
	text string
}

// samples are some of all sorts.
func samples(t *testing.T) []sample {
	t.Helper()
	l := []sample{
		{example(t), ""}, {example(t), "if iffy 12"}, {example(t), "a!b"}, {example(t), "!"}, {example(t), "if"},
		{language(t), "if x1<=12.5/* ** */else \"a\\\"\"==elsee"}, {language(t), "if x1<=12.5/* ** * /else"},
		{machineOf(t, "a", "a*b"), "aabaaaa"}, {around(3, -1), "xxxxx"}, {row(-1, 5, -1), strings.Repeat("x", 60)}, {row(-1, 5), strings.Repeat("x", 8192)},
	}
	m := mixer(2)
	for i := range 800 {
		l = append(l, sample{m.machine(1+m.below(1+i/80), 1+m.below(3), 1+m.below(4)), m.text("abcdef", m.below(30))})
	}
	return l
}

// P13.3: the tokens that Cut tells, in order, each once; also those up to where there is none.
func TestAll(t *testing.T) {
	whole, part := 0, 0
	for _, s := range samples(t) {
		l, _, e := munch.Cut(s.d, []byte(s.text))
		isAll(t, s.d, s.text, l)
		if e == api.OK {
			whole++
		} else if len(l) > 0 {
			part++
		}
	}
	if whole < 50 || part < 50 {
		t.Errorf("%d texts were cut, %d in part", whole, part)
	}
}

// P13.3: the chapter's example.
func TestAllOfTheExample(t *testing.T) {
	isAll(t, example(t), "if iffy 12", []api.Token{tokenOf(0, 0, 2), tokenOf(2, 2, 3), tokenOf(1, 3, 7), tokenOf(2, 7, 8), tokenOf(3, 8, 10)})
	isAll(t, example(t), "a!b", []api.Token{tokenOf(1, 0, 1)})
	isAll(t, example(t), "!b", nil)
	isAll(t, example(t), "", nil)
}

// P13.3: none, if Cut answers another error than ErrScan: it can be ranged over all the same.
func TestAllOfWhatIsRefused(t *testing.T) {
	isNone := func(all iter.Seq[api.Token]) {
		t.Helper()
		for token := range all {
			t.Fatalf("%v was told", token)
		}
	}
	for _, r := range refusedOnes(t) {
		for _, text := range []string{"", "x", "xyz", strings.Repeat("x", 8193)} {
			isNone(munch.All(r.d, []byte(text)))
		}
	}
	isNone(munch.All(around(3), make([]byte, 8193)))
	isNone(munch.All(row(-1, 3), make([]byte, 8193)))
	isNone(munch.All(api.Dfa{}, nil))
}

// P13.3: it is ended behind each token, the first and the last one with them, and tells none behind it.
func TestAllTillNobodyWantsMore(t *testing.T) {
	for _, s := range samples(t) {
		l, _, _ := munch.Cut(s.d, []byte(s.text))
		all := munch.All(s.d, []byte(s.text))
		for n := 1; n <= len(l); n += 1 + n/50 {
			if got := firstOf(all, n); !slices.Equal(got, l[:n]) {
				t.Fatalf("the first %d of %v: %v", n, l, got)
			}
		}
	}
}

// P13.3: who has once wanted no more is not asked again, not even for the last token.
func TestAllAsksNoMore(t *testing.T) {
	for _, s := range samples(t) {
		l, _, _ := munch.Cut(s.d, []byte(s.text))
		all := munch.All(s.d, []byte(s.text))
		for stop := 1; stop <= len(l); stop += 1 + stop/50 {
			asked := 0
			all(func(api.Token) bool {
				asked++
				return asked < stop
			})
			if asked != stop {
				t.Fatalf("it was ended at the token %d, and asked %d times", stop, asked)
			}
		}
	}
}

// P13.3: one answer is ranged over twice, behind an end, too, and one within the other: each begins with all.
func TestAllTwice(t *testing.T) {
	for _, s := range samples(t)[:60] {
		l, _, _ := munch.Cut(s.d, []byte(s.text))
		all := munch.All(s.d, []byte(s.text))
		begins := func() {
			t.Helper()
			if got := slices.Collect(all); !slices.Equal(got, l) {
				t.Fatalf("%v, want %v", got, l)
			}
		}
		begins()
		begins()
		for n := 1; n <= len(l); n += 1 + len(l)/9 {
			firstOf(all, n)
			begins()
		}
		if len(l) > 100 {
			continue
		}
		var outer []api.Token
		for token := range all {
			outer = append(outer, token)
			begins()
			firstOf(all, 2)
		}
		if !slices.Equal(outer, l) {
			t.Fatalf("with others within: %v, want %v", outer, l)
		}
	}
}
