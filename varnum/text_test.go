package varnum_test

import (
	"bytes"
	"math"
	"testing"

	"incunable/api"
	"incunable/varnum"
)

// textsOf are texts of all lengths around those at which the number of bytes gets a byte more.
func textsOf() [][]byte {
	l := [][]byte{nil, {}, {0}, {0x80}, {0xFF, 0xFF}, []byte("a"), []byte("ab"), []byte("ab\x00")}
	for _, size := range []int{3, 126, 127, 128, 129, 300, 16383, 16384, api.MaxText - 1, api.MaxText, api.MaxText + 1} {
		text := make([]byte, size)
		for i := range text {
			text[i] = byte(i*7 + size)
		}
		l = append(l, text)
	}
	return l
}

func mustText(t *testing.T, text []byte) []byte {
	t.Helper()
	b, e := varnum.Text(text, len(text))
	if e != api.OK {
		t.Fatalf("Text of %d bytes: error %d", len(text), e)
	}
	return b
}

// P1.2, Text: its length, and it.
func TestTextBytes(t *testing.T) {
	for _, c := range []struct {
		text string
		most int
		want []byte
	}{
		{"", 0, []byte{0}},
		{"", 1, []byte{0}},
		{"", math.MaxInt, []byte{0}},
		{"a", 1, []byte{1, 'a'}},
		{"ab", 2, []byte{2, 'a', 'b'}},
		{"ab", 3, []byte{2, 'a', 'b'}},
		{"\x00\x80\xFF", math.MaxInt, []byte{3, 0x00, 0x80, 0xFF}},
	} {
		b, e := varnum.Text([]byte(c.text), c.most)
		if !bytes.Equal(b, c.want) || e != api.OK {
			t.Errorf("Text(%q, %d): % X, error %d; want % X", c.text, c.most, b, e, c.want)
		}
	}
	for _, text := range textsOf() {
		want := append(digitsOf(len(text)), text...)
		for _, most := range []int{len(text), len(text) + 1, api.MaxNumber, math.MaxInt} {
			if b, e := varnum.Text(text, most); !bytes.Equal(b, want) || e != api.OK {
				t.Errorf("Text of %d bytes, %d at most: %d bytes, error %d", len(text), most, len(b), e)
			}
		}
	}
}

// P1.2, Text: each error, in order, and nothing beside it.
func TestTextRefuses(t *testing.T) {
	for _, c := range []struct {
		text string
		most int
		e    api.Errno
	}{
		{"", -1, api.ErrArg},
		{"", math.MinInt, api.ErrArg},
		{"ab", -1, api.ErrArg},
		{"ab", -3, api.ErrArg},
		{"ab", math.MinInt, api.ErrArg},
		{"a", 0, api.ErrLimit},
		{"ab", 0, api.ErrLimit},
		{"ab", 1, api.ErrLimit},
		{"abc", 2, api.ErrLimit},
	} {
		if b, e := varnum.Text([]byte(c.text), c.most); len(b) != 0 || e != c.e {
			t.Errorf("Text(%q, %d): % X, error %d; want error %d alone", c.text, c.most, b, e, c.e)
		}
	}
	for _, text := range textsOf() {
		if len(text) == 0 {
			continue
		}
		if b, e := varnum.Text(text, len(text)-1); len(b) != 0 || e != api.ErrLimit {
			t.Errorf("Text of %d bytes, one less at most: %d bytes, error %d", len(text), len(b), e)
		}
	}
}

// P1.2, TakeText: a text, and what stands behind.
func TestTakeText(t *testing.T) {
	for _, c := range []struct {
		b          []byte
		most       int
		text, rest []byte
	}{
		{[]byte{0}, 0, nil, nil},
		{[]byte{0}, 5, nil, nil},
		{[]byte{0, 9, 8}, 0, nil, []byte{9, 8}},
		{[]byte{1, 0}, 1, []byte{0}, nil},
		{[]byte{1, 0x80, 0x80}, 1, []byte{0x80}, []byte{0x80}},
		{[]byte("\x02abc"), 2, []byte("ab"), []byte("c")},
		{[]byte("\x02ab"), 2, []byte("ab"), nil},
		{[]byte("\x02abc"), math.MaxInt, []byte("ab"), []byte("c")},
	} {
		text, rest, e := varnum.TakeText(c.b, c.most)
		if !bytes.Equal(text, c.text) || !bytes.Equal(rest, c.rest) || e != api.OK {
			t.Errorf("TakeText(% X, %d): % X, % X, error %d; want % X, % X", c.b, c.most, text, rest, e, c.text, c.rest)
		}
	}
}

// P1.2, TakeText: each error, in order, and nothing beside it.
func TestTakeTextRefuses(t *testing.T) {
	greatest := []byte{0xFF, 0xFF, 0xFF, 0xFF, 0xFF, 0xFF, 0xFF, 0x0F}
	for _, c := range []struct {
		b    []byte
		most int
		e    api.Errno
	}{
		// A most below 0 comes ahead of all that is wrong with the bytes.
		{nil, -1, api.ErrArg},
		{[]byte{0}, -1, api.ErrArg},
		{[]byte{0}, math.MinInt, api.ErrArg},
		{[]byte{0x80}, -1, api.ErrArg},
		{[]byte{0x80, 0x00}, -1, api.ErrArg},
		{[]byte("\x02ab"), -1, api.ErrArg},
		// Then what is wrong with the number.
		{nil, 0, api.ErrTrunc},
		{nil, 9, api.ErrTrunc},
		{[]byte{0x80}, 0, api.ErrTrunc},
		{[]byte{0x80, 0x00}, 0, api.ErrSyntax},
		{[]byte{0x80, 0x00}, 9, api.ErrSyntax},
		{[]byte{0x82, 0x00, 'a', 'b'}, 2, api.ErrSyntax},
		{bytes.Repeat([]byte{0xFF}, 8), 9, api.ErrSyntax},
		{[]byte{0x80, 0x80, 0x80, 0x80, 0x80, 0x80, 0x80, 0x10}, 9, api.ErrSyntax},
		{[]byte{0x80, 0x80, 0x80, 0x80, 0x80, 0x80, 0x80, 0x10}, math.MaxInt, api.ErrSyntax},
		// Then a number above most, ahead of how many bytes are left.
		{[]byte{1, 'a'}, 0, api.ErrLimit},
		{[]byte{1}, 0, api.ErrLimit},
		{[]byte("\x02ab"), 1, api.ErrLimit},
		{[]byte("\x03a"), 2, api.ErrLimit},
		{greatest, api.MaxNumber - 1, api.ErrLimit},
		// At last fewer bytes than the number tells.
		{[]byte{1}, 1, api.ErrTrunc},
		{[]byte("\x02a"), 2, api.ErrTrunc},
		{[]byte("\x02a"), math.MaxInt, api.ErrTrunc},
		{greatest, api.MaxNumber, api.ErrTrunc},
		{varnum.Join(greatest, []byte("abc")), math.MaxInt, api.ErrTrunc},
	} {
		text, rest, e := varnum.TakeText(c.b, c.most)
		if len(text) != 0 || len(rest) != 0 || e != c.e {
			t.Errorf("TakeText(% X, %d): % X, % X, error %d; want error %d alone", c.b, c.most, text, rest, e, c.e)
		}
	}
}

// P1.4: texts that were written are read as they were, and what stands behind them is left.
func TestTextIsReadAsWritten(t *testing.T) {
	for _, text := range textsOf() {
		for _, tail := range [][]byte{nil, {0}, {0x80}, {0xFF, 0x01, 0x00}} {
			got, rest, e := varnum.TakeText(varnum.Join(mustText(t, text), tail), len(text))
			if !bytes.Equal(got, text) || !bytes.Equal(rest, tail) || e != api.OK {
				t.Errorf("of %d bytes, and % X: %d bytes, % X, error %d", len(text), tail, len(got), rest, e)
			}
		}
	}
}

// P1.4: numbers and texts one behind the other are read in their order.
func TestMixedAreReadAsWritten(t *testing.T) {
	b := varnum.Join(mustNum(t, 300), mustText(t, []byte("ab")), mustText(t, nil), mustNum(t, 0), mustText(t, []byte{0x80}))
	n, b, e1 := varnum.TakeNum(b)
	x, b, e2 := varnum.TakeText(b, 2)
	y, b, e3 := varnum.TakeText(b, 0)
	m, b, e4 := varnum.TakeNum(b)
	z, b, e5 := varnum.TakeText(b, 1)
	if e1 != api.OK || e2 != api.OK || e3 != api.OK || e4 != api.OK || e5 != api.OK {
		t.Fatalf("errors %d, %d, %d, %d, %d", e1, e2, e3, e4, e5)
	}
	if n != 300 || string(x) != "ab" || len(y) != 0 || m != 0 || string(z) != "\x80" || len(b) != 0 {
		t.Errorf("%d, %q, %q, %d, %q, and % X left", n, x, y, m, z, b)
	}
}

// P1.4: what can be read as a text is written so. (All two bytes, with one behind them, and lists that begin with a length of two bytes.)
func TestTextIsWrittenAsRead(t *testing.T) {
	check := func(b []byte) {
		text, rest, e := varnum.TakeText(b, len(b))
		if e != api.OK {
			return
		}
		if back := varnum.Join(mustText(t, text), rest); !bytes.Equal(back, b) {
			t.Fatalf("% X is read as % X and % X, written as % X", b, text, rest, back)
		}
	}
	for n := range 1 << 16 {
		for _, c := range []byte{0x00, 0x01, 0x7F, 0x80, 0xFF} {
			check([]byte{byte(n), byte(n >> 8), c})
		}
	}
	for n := range 1 << 14 {
		b := make([]byte, 400)
		b[0], b[1], b[2] = byte(n)|0x80, byte(n>>7), byte(n)
		check(b)
	}
}

// P1.5: a text's bytes that are cut are told by ErrTrunc: so none are the beginning of another one's.
func TestTextCut(t *testing.T) {
	for _, text := range textsOf() {
		b := mustText(t, text)
		step := 1 + len(b)/500
		for i := 0; i < len(b); i += step {
			got, rest, e := varnum.TakeText(b[:i], len(text))
			if len(got) != 0 || len(rest) != 0 || e != api.ErrTrunc {
				t.Fatalf("the first %d of %d bytes: %d bytes, %d left, error %d; want ErrTrunc alone", i, len(b), len(got), len(rest), e)
			}
		}
		if _, _, e := varnum.TakeText(b[:len(b)-1], len(text)); e != api.ErrTrunc {
			t.Errorf("all but the last of %d bytes: error %d; want ErrTrunc", len(b), e)
		}
	}
}

// P1.5: held against each other, one by one; also where one text is the beginning of another one, or begins as bytes of a text.
func TestNoTextBeginsAnother(t *testing.T) {
	l := [][]byte{mustText(t, nil)}
	for size := 1; size <= 300; size++ {
		l = append(l, mustText(t, bytes.Repeat([]byte{0x01}, size)), mustText(t, bytes.Repeat([]byte{0x80}, size)))
	}
	noneBegins(t, l)
}

// P1.3, Join: all, one behind the other.
func TestJoin(t *testing.T) {
	for _, c := range []struct {
		l    [][]byte
		want string
	}{
		{nil, ""},
		{[][]byte{}, ""},
		{[][]byte{nil}, ""},
		{[][]byte{nil, {}, nil}, ""},
		{[][]byte{[]byte("a")}, "a"},
		{[][]byte{[]byte("ab"), []byte("c")}, "abc"},
		{[][]byte{nil, []byte("c"), {}, []byte("ab"), nil}, "cab"},
		{[][]byte{{0}, {0, 0x80}, {0xFF}}, "\x00\x00\x80\xFF"},
	} {
		if b := varnum.Join(c.l...); string(b) != c.want {
			t.Errorf("Join(%q): %q; want %q", c.l, b, c.want)
		}
	}
	if b := varnum.Join(); len(b) != 0 {
		t.Errorf("Join(): %q", b)
	}
	same := []byte("xy")
	if b := varnum.Join(same, same, same); string(b) != "xyxyxy" {
		t.Errorf("Join of the same three times: %q", b)
	}
	var l [][]byte
	var want []byte
	for i := range 1000 {
		l = append(l, bytes.Repeat([]byte{byte(i)}, i%5))
		want = append(want, l[i]...)
	}
	if b := varnum.Join(l...); !bytes.Equal(b, want) {
		t.Errorf("Join of 1000: %d bytes, want %d", len(b), len(want))
	}
}
