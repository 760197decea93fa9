package words_test

import (
	"bytes"
	"math"
	"slices"
	"strings"
	"testing"

	"incunable/api"
	"incunable/words"
)

// samples are bytes that are words, and some that are none.
func samples() []string {
	m := mixer(9)
	l := []string{"", "term n = /[0-9]+/;", "import \"a/b.g\"; # x", "rules : 9", "/a\\/b/ /a", "!", strings.Repeat(";", 8192), strings.Repeat("a", 8193)}
	for range 500 {
		l = append(l, m.file(), m.bytes(m.below(20)))
	}
	return l
}

// roomy are bytes with spare room behind them, in which others stand that could go on with them.
func roomy(text string) []byte {
	return append([]byte(text), "a\"/\\#\n term"...)[:len(text)]
}

// spoil writes over bytes, their spare room too.
func spoil(b []byte) {
	b = b[:cap(b)]
	for i := range b {
		b[i] = '!'
	}
}

// P14.3: bytes are only read, their spare room too, and what stands there has no say.
func TestWhatIsHandedInIsOnlyRead(t *testing.T) {
	for _, text := range samples() {
		b := roomy(text)
		was := bytes.Clone(b[:cap(b)])
		l, at, e := words.Cut(b)
		if !bytes.Equal(b[:cap(b)], was) {
			t.Fatalf("%.60q was changed", text)
		}
		want, wantAt, wantE := words.Cut(slices.Clip([]byte(text)))
		if !slices.Equal(l, want) || at != wantAt || e != wantE {
			t.Fatalf("%.60q: what stands behind it had a say", text)
		}
	}
}

// P14.3: bytes are not kept: what was answered stays as it is when they become others, and other bytes in the same place are cut anew.
func TestWhatIsHandedInIsNotKept(t *testing.T) {
	for _, text := range samples() {
		b := roomy(text)
		l, _, e := words.Cut(b)
		want := slices.Clone(l)
		spoil(b)
		if !slices.Equal(l, want) {
			t.Fatalf("%v became %v", want, l)
		}
		if len(text) > 0 && e != api.ErrLimit {
			if l, at, e := words.Cut(b); len(l) != 0 || at != 0 || e != api.ErrWord {
				t.Fatalf("%.60q: it was kept", text)
			}
		}
	}
}

// P14.3: two answers share no memory, nor their spare room, and none is kept.
func TestAnswersAreNewMemory(t *testing.T) {
	for _, text := range samples() {
		a, _, _ := words.Cut([]byte(text))
		want := slices.Clone(a)
		b, _, _ := words.Cut([]byte(text))
		for i := range a[:cap(a)] {
			a[:cap(a)][i] = wordOf(-9, -9, -9)
		}
		if !slices.Equal(b, want) {
			t.Fatalf("%v became %v", want, b)
		}
		if c, _, _ := words.Cut([]byte(text)); !slices.Equal(c, want) {
			t.Fatalf("%v, want %v", c, want)
		}
	}
}

// R2: calls hang on what they are handed alone: the same ones, in another order, answer the same.
func TestCallsHangOnNothingElse(t *testing.T) {
	list := samples()
	var tokens [][]api.Token
	for _, text := range list {
		l, _, _ := words.Cut([]byte(text))
		tokens = append(tokens, l)
	}
	for i := len(list) - 1; i >= 0; i-- {
		words.Spelled(i)
		words.IsName(list[i])
		if l, _, _ := words.Cut([]byte(list[i])); !slices.Equal(l, tokens[i]) {
			t.Fatalf("%.60q: %v, want %v", list[i], l, tokens[i])
		}
	}
}

// R1: no call panics, or goes on for ever, whatever it is handed.
func TestNoCallPanics(t *testing.T) {
	m := mixer(10)
	list := samples()
	for range 20000 {
		list = append(list, m.bytes(m.below(40)), m.text("\"/\\#\n\r\x00\xff\xc3a9", m.below(40)))
	}
	for _, c := range []string{"\"", "/", "\\", "#", "a", "\xff", "\xc3", "\xf0\x90", ";", "\n"} {
		for _, n := range []int{1, 2, 24, 25, 32, 33, 34, 8191, 8192, 8193, 1 << 20} {
			list = append(list, strings.Repeat(c, n), "/"+strings.Repeat(c, n), "\""+strings.Repeat(c, n))
		}
	}
	for _, s := range list {
		l, at, e := words.Cut([]byte(s))
		switch {
		case e == api.OK && at == 0:
		case e == api.ErrLimit && at == 0 && len(s) > 8192 && len(l) == 0:
		case e == api.ErrWord && 0 <= at && at < len(s) && len(s) <= 8192 && len(l) == 0:
		default:
			t.Fatalf("Cut(%.60q) = %v, %d, %d", s, l, at, e)
		}
		words.IsName(s)
		words.IsPath(s)
		words.IsPattern(s)
	}
	for _, n := range []int{math.MinInt, math.MinInt32, -1, 0, math.MaxInt32, math.MaxInt} {
		words.Spelled(n)
	}
}
