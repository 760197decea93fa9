package munch_test

import (
	"math"
	"strings"
	"testing"

	"incunable/api"
)

// P13.1: the chapter's examples.
func TestNextOfTheExample(t *testing.T) {
	d := example(t)
	isNoNext(t, d, "a!b", 1, api.ErrScan)
	isNoNext(t, d, "a", 1, api.ErrTrunc)
	isNoNext(t, d, "a", 2, api.ErrRange)
	for at, want := range []api.Token{tokenOf(0, 0, 2), tokenOf(1, 1, 2), tokenOf(2, 2, 3), tokenOf(1, 3, 7), tokenOf(1, 4, 7), tokenOf(1, 5, 7), tokenOf(1, 6, 7), tokenOf(2, 7, 8), tokenOf(3, 8, 10), tokenOf(3, 9, 10)} {
		isNext(t, d, "if iffy 12", at, want)
	}
}

// P13.1: dfa.Check's error of a machine that may not be, ahead of all others.
func TestNextOfMachinesThatMayNotBe(t *testing.T) {
	for _, r := range refusedOnes(t) {
		for _, text := range []string{"", "x", "xyz", strings.Repeat("x", 8193)} {
			for _, at := range []int{0, 1, -1, len(text), len(text) + 1, math.MinInt, math.MaxInt} {
				isNoNext(t, r.d, text, at, r.e)
			}
		}
	}
}

// P13.1: a text has 8192 bytes at most; ErrLimit is told ahead of all that the place may be.
func TestNextOfLongTexts(t *testing.T) {
	letters := machineOf(t, "a", "[b]+")
	for _, length := range []int{8191, 8192} {
		text := strings.Repeat("a", length)
		isNext(t, letters, text, 0, tokenOf(0, 0, 1))
		isNext(t, letters, text, length-1, tokenOf(0, length-1, length))
		isNoNext(t, letters, text, length, api.ErrTrunc)
		isNoNext(t, letters, text, length+1, api.ErrRange)
		isNext(t, letters, strings.Repeat("b", length), 0, tokenOf(1, 0, length))
		isNext(t, letters, strings.Repeat("b", length), 5000, tokenOf(1, 5000, length))
		isNoNext(t, letters, strings.Repeat("c", length), 0, api.ErrScan)
	}
	for _, length := range []int{8193, 8194, 100000} {
		for _, letter := range []string{"a", "b", "c"} {
			text := strings.Repeat(letter, length)
			for _, at := range []int{0, 1, 8192, 8193, -1, length - 1, length, length + 1, math.MinInt, math.MaxInt} {
				isNoNext(t, letters, text, at, api.ErrLimit)
			}
		}
	}
}

// P13.1: places are from 0 to how many bytes the text has; at that there is nothing any more.
func TestPlaces(t *testing.T) {
	all, nothing := around(7), plain(1, 1)
	for _, length := range []int{0, 1, 2, 3, 100, 8192} {
		text := strings.Repeat("x", length)
		for _, d := range []api.Dfa{all, nothing} {
			for _, at := range []int{-1, -2, math.MinInt, length + 1, length + 2, 8193, math.MaxInt} {
				isNoNext(t, d, text, at, api.ErrRange)
			}
			isNoNext(t, d, text, length, api.ErrTrunc)
		}
		for _, at := range []int{0, length / 2, length - 1} {
			if at >= 0 && at < length {
				isNext(t, all, text, at, tokenOf(7, at, length))
				isNoNext(t, nothing, text, at, api.ErrScan)
			}
		}
	}
	isNoNext(t, all, "", 0, api.ErrTrunc)
	isNoNext(t, all, "", 1, api.ErrRange)
	isNoNext(t, all, "", -1, api.ErrRange)
}

// P13.1: where the machine goes nowhere at once there is no token, whatever comes behind.
func TestNoTokenAsTheMachineGoesNowhere(t *testing.T) {
	d := example(t)
	for _, text := range []string{"!", "!a", "!!", "A1", "\x00if", "\xff", "-1 2"} {
		isNoNext(t, d, text, 0, api.ErrScan)
	}
	for at := range 3 {
		isNoNext(t, plain(1, 1), "abc", at, api.ErrScan)
		isNoNext(t, row(4), "abc", at, api.ErrScan)
	}
}

// P13.1: where no rule is told on the way there is no token: not if the text ends, not if the machine goes nowhere, and not if it goes on and on.
func TestNoTokenAsNoRuleIsTold(t *testing.T) {
	d := machineOf(t, "abcd", "\"[^\"]*\"")
	for _, text := range []string{"a", "ab", "abc", "abc!", "abca", "ab\"x\"", "\"", "\"x", "\"xyz !"} {
		isNoNext(t, d, text, 0, api.ErrScan)
	}
	isNext(t, d, "abcd", 0, tokenOf(0, 0, 4))
	isNext(t, d, "\"x\"", 0, tokenOf(1, 0, 3))
	isNoNext(t, d, "\""+strings.Repeat("x", 8191), 0, api.ErrScan)
	isNoNext(t, around(-1, -1, -1), "abcdefgh", 0, api.ErrScan)
	// The state in which a rule would end is not come to.
	isNoNext(t, row(-1, -1, -1, -1, 5), "abc", 0, api.ErrScan)
	isNext(t, row(-1, -1, -1, -1, 5), "abcd", 0, tokenOf(5, 0, 4))
}

// P13.1: a token has one byte at least, also where the machine tells a rule of the text without bytes.
func TestNoTokenWithoutBytes(t *testing.T) {
	for _, text := range []string{"b", "bb", "ba"} {
		isNoNext(t, machineOf(t, "a*"), text, 0, api.ErrScan)
		isNoNext(t, machineOf(t, "", "a"), text, 0, api.ErrScan)
		isNoNext(t, machineOf(t, ""), text, 0, api.ErrScan)
		isNoNext(t, row(9), text, 0, api.ErrScan)
		isNoNext(t, row(9, -1), text, 0, api.ErrScan)
		isNoNext(t, row(0, -1, -1), text, 0, api.ErrScan)
	}
	isNoNext(t, machineOf(t, "a*"), "", 0, api.ErrTrunc)
	isNoNext(t, row(9), "", 0, api.ErrTrunc)
	isNext(t, machineOf(t, "a*"), "ab", 0, tokenOf(0, 0, 1))
}

// P13.1: the beginning's rule counts, if the machine comes back to it.
func TestBackAtTheBeginning(t *testing.T) {
	isNext(t, machineOf(t, "(abc)*"), "abcabcab", 0, tokenOf(0, 0, 6))
	isNext(t, machineOf(t, "(abc)*"), "abcabcab", 3, tokenOf(0, 3, 6))
	isNoNext(t, machineOf(t, "(abc)*"), "abcabcab", 6, api.ErrScan)
	isNext(t, around(3), "xyz", 1, tokenOf(3, 1, 3))
	isNext(t, around(3, -1), "xxxxx", 0, tokenOf(3, 0, 4))
	isNoNext(t, around(3, -1), "x", 0, api.ErrScan)
}

// P13.1: behind the longest piece the machine may go on without coming to a rule any more; what it reads there is given back.
func TestWhatIsReadIsGivenBack(t *testing.T) {
	d := machineOf(t, "a", "ab", "abcdef", "[0-9]+(\\.[0-9]+)?", "\\.")
	for _, c := range []struct {
		text     string
		kind, to int
	}{
		{"a", 0, 1}, {"ax", 0, 1}, {"aa", 0, 1},
		{"ab", 1, 2}, {"abc", 1, 2}, {"abcd", 1, 2}, {"abcde", 1, 2}, {"abcdex", 1, 2}, {"abcdea", 1, 2},
		{"abcdef", 2, 6}, {"abcdefg", 2, 6}, {"abcdefabcde", 2, 6},
		{"12", 3, 2}, {"12.", 3, 2}, {"12.x", 3, 2}, {"12..5", 3, 2}, {"12.5", 3, 4}, {"12.5.", 3, 4}, {"12.5.6", 3, 4},
	} {
		isNext(t, d, c.text, 0, tokenOf(c.kind, 0, c.to))
		isNext(t, d, "a.!"+c.text, 3, tokenOf(c.kind, 3, 3+c.to))
	}
}

// P13.1: the same, far behind it: up to the text's end, too.
func TestWhatIsReadFarBehindIsGivenBack(t *testing.T) {
	d := machineOf(t, "\\/", "\\/\\*[^*]*\\*\\/", "[^\\/]")
	far := "/*" + strings.Repeat("x", 8180)
	isNext(t, d, far, 0, tokenOf(0, 0, 1))
	isNext(t, d, far+"*", 0, tokenOf(0, 0, 1))
	isNext(t, d, far+"*!", 0, tokenOf(0, 0, 1))
	isNext(t, d, far+"*/", 0, tokenOf(1, 0, 8184))
	isNext(t, d, far+"*/*/", 0, tokenOf(1, 0, 8184))
	isNext(t, d, far, 1, tokenOf(2, 1, 2))
	// A rule that is told once in 512 bytes, and then not any more.
	rules := plain(512, 1).Rule
	rules[100] = 6
	for _, c := range [][2]int{{100, 100}, {101, 100}, {611, 100}, {612, 612}, {613, 612}, {8191, 7780}, {8192, 7780}} {
		isNext(t, around(rules...), strings.Repeat("x", c[0]), 0, tokenOf(6, 0, c[1]))
	}
	isNoNext(t, around(rules...), strings.Repeat("x", 99), 0, api.ErrScan)
}

// P13.1: a token may end where the text does, at each place.
func TestTokensThatEndWhereTheTextDoes(t *testing.T) {
	d := example(t)
	for _, text := range []string{"i", "if", "iff", "z", " ", "   ", "0", "12", strings.Repeat("if", 4096), strings.Repeat("9", 8192)} {
		kind := ran(t, d, text)
		isNext(t, d, text, 0, tokenOf(kind, 0, len(text)))
		last := ran(t, d, text[len(text)-1:])
		isNext(t, d, text, len(text)-1, tokenOf(last, len(text)-1, len(text)))
		if len(text) < 8192 {
			isNext(t, d, text+"!", 0, tokenOf(kind, 0, len(text)))
		}
	}
}

// P13.1: the rule is that of the state at the longest piece, neither its number nor a rule that was told on the way, be it less or more.
func TestTheRuleAtTheLongestPiece(t *testing.T) {
	for _, c := range []struct {
		rules    []int
		kind, to int
	}{
		{[]int{-1, 0}, 0, 1}, {[]int{-1, 63}, 63, 1}, {[]int{5, 0}, 0, 1}, {[]int{0, 63}, 63, 1},
		{[]int{-1, 3, 7}, 7, 2}, {[]int{-1, 7, 3}, 3, 2}, {[]int{-1, 63, 0}, 0, 2}, {[]int{-1, 0, 63}, 63, 2},
		{[]int{-1, 3, -1}, 3, 1}, {[]int{9, 3, -1, -1}, 3, 1}, {[]int{9, -1, 3, -1}, 3, 2},
		{[]int{-1, 4, -1, 0, -1}, 0, 3}, {[]int{-1, 0, -1, 4, -1}, 4, 3}, {[]int{2, 2, 1, 8, 1}, 1, 4},
	} {
		isNext(t, row(c.rules...), "abcdefgh", 0, tokenOf(c.kind, 0, c.to))
		isNext(t, row(c.rules...), "abcdefgh", 2, tokenOf(c.kind, 2, 2+c.to))
		isNext(t, row(c.rules...), "abcdefgh"[:c.to], 0, tokenOf(c.kind, 0, c.to))
	}
}

// P13.1: each state is gone to behind the byte's class, whatever byte it is, and each token begins at the machine's beginning.
func TestClassesOfBytes(t *testing.T) {
	d := plain(4, 3)
	d.Class = classes("\x00\xff")
	d.Next = [][]int{{1, 2, 3}, {1, -1, -1}, {2, 2, -1}, {-1, -1, 3}}
	d.Rule = []int{-1, 11, 22, 33}
	for c := range 256 {
		kind := 11
		if c == 0 {
			kind = 22
		} else if c == 255 {
			kind = 33
		}
		isNext(t, d, string([]byte{byte(c)}), 0, tokenOf(kind, 0, 1))
	}
	for at, want := range []api.Token{tokenOf(22, 0, 4), tokenOf(22, 1, 4), tokenOf(11, 2, 3), tokenOf(22, 3, 4), tokenOf(33, 4, 6), tokenOf(33, 5, 6), tokenOf(22, 6, 7)} {
		isNext(t, d, "\x00\x00x\x00\xff\xff\x00", at, want)
	}
}

// P13.1: what is ahead of the place has no say.
func TestWhatIsAheadHasNoSay(t *testing.T) {
	m := mixer(1)
	for i := range 600 {
		d := m.machine(1+m.below(1+i/50), 1+m.below(4), 1+m.below(4))
		text := m.text("abcde", 1+m.below(8))
		want, is := slowNext(t, d, text, 0)
		for _, ahead := range []string{"", "a", "!", m.text("abcde", 5)} {
			if is {
				isNext(t, d, ahead+text, len(ahead), tokenOf(want.Kind, len(ahead), len(ahead)+want.To))
			} else {
				isNoNext(t, d, ahead+text, len(ahead), api.ErrScan)
			}
		}
	}
}
