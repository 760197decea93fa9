package varnum_test

import (
	"bytes"
	"math"
	"testing"

	"incunable/api"
	"incunable/varnum"
)

// digitsOf writes a number's bytes in another way than the package does: by divisions alone, the marks put in at last.
func digitsOf(n int) []byte {
	b := []byte{byte(n % 128)}
	for n /= 128; n > 0; n /= 128 {
		b = append(b, byte(n%128))
	}
	for i := range b[:len(b)-1] {
		b[i] += 128
	}
	return b
}

// manyNumbers are numbers around each power of 2 and of 128, small ones, and some spread over all.
func manyNumbers() []int {
	var l []int
	for n := range 20000 {
		l = append(l, n)
	}
	for p := 15; p <= 53; p++ {
		for d := -3; d <= 3; d++ {
			if n := 1<<p + d; n <= api.MaxNumber {
				l = append(l, n)
			}
		}
	}
	x := uint64(88172645463325252)
	for range 20000 {
		x ^= x << 13
		x ^= x >> 7
		x ^= x << 17
		l = append(l, int(x%(api.MaxNumber+1))>>(x>>58))
	}
	return l
}

func mustNum(t *testing.T, n int) []byte {
	t.Helper()
	b, e := varnum.Num(n)
	if e != api.OK {
		t.Fatalf("Num(%d): error %d", n, e)
	}
	return b
}

// P1.1, Num: the bytes of numbers at each edge.
func TestNumBytes(t *testing.T) {
	for _, c := range []struct {
		n    int
		want []byte
	}{
		{0, []byte{0}},
		{1, []byte{1}},
		{126, []byte{0x7E}},
		{127, []byte{0x7F}},
		{128, []byte{0x80, 0x01}},
		{129, []byte{0x81, 0x01}},
		{255, []byte{0xFF, 0x01}},
		{256, []byte{0x80, 0x02}},
		{300, []byte{0xAC, 0x02}},
		{1<<14 - 1, []byte{0xFF, 0x7F}},
		{1 << 14, []byte{0x80, 0x80, 0x01}},
		{1<<21 - 1, []byte{0xFF, 0xFF, 0x7F}},
		{1 << 21, []byte{0x80, 0x80, 0x80, 0x01}},
		{1 << 28, []byte{0x80, 0x80, 0x80, 0x80, 0x01}},
		{math.MaxInt32, []byte{0xFF, 0xFF, 0xFF, 0xFF, 0x07}},
		{1 << 35, []byte{0x80, 0x80, 0x80, 0x80, 0x80, 0x01}},
		{1 << 42, []byte{0x80, 0x80, 0x80, 0x80, 0x80, 0x80, 0x01}},
		{1<<49 - 1, []byte{0xFF, 0xFF, 0xFF, 0xFF, 0xFF, 0xFF, 0x7F}},
		{1 << 49, []byte{0x80, 0x80, 0x80, 0x80, 0x80, 0x80, 0x80, 0x01}},
		{api.MaxNumber - 1, []byte{0xFE, 0xFF, 0xFF, 0xFF, 0xFF, 0xFF, 0xFF, 0x0F}},
		{api.MaxNumber, []byte{0xFF, 0xFF, 0xFF, 0xFF, 0xFF, 0xFF, 0xFF, 0x0F}},
	} {
		b, e := varnum.Num(c.n)
		if !bytes.Equal(b, c.want) || e != api.OK {
			t.Errorf("Num(%d): % X, error %d; want % X", c.n, b, e, c.want)
		}
	}
	for _, n := range manyNumbers() {
		if b, e := varnum.Num(n); !bytes.Equal(b, digitsOf(n)) || e != api.OK {
			t.Fatalf("Num(%d): % X, error %d; want % X", n, b, e, digitsOf(n))
		}
	}
}

// P1.1, Num: what is no number.
func TestNumRefuses(t *testing.T) {
	for _, n := range []int{-1, -2, -127, -128, -api.MaxNumber, math.MinInt, math.MinInt + 1, api.MaxNumber + 1, api.MaxNumber + 2, 1 << 54, 1 << 56, 1 << 62, math.MaxInt} {
		if b, e := varnum.Num(n); len(b) != 0 || e != api.ErrArg {
			t.Errorf("Num(%d): % X, error %d; want ErrArg alone", n, b, e)
		}
	}
}

// P1.1, TakeNum: a number, and what stands behind.
func TestTakeNum(t *testing.T) {
	for _, c := range []struct {
		b    []byte
		n    int
		rest []byte
	}{
		{[]byte{0}, 0, nil},
		{[]byte{0, 0}, 0, []byte{0}},
		{[]byte{0, 0x80}, 0, []byte{0x80}},
		{[]byte{0x7F}, 127, nil},
		{[]byte{0x7F, 0xFF, 0xFF}, 127, []byte{0xFF, 0xFF}},
		{[]byte{0x80, 0x01}, 128, nil},
		{[]byte{0xAC, 0x02, 0x07}, 300, []byte{0x07}},
		{[]byte{0x80, 0x80, 0x01, 0x00}, 1 << 14, []byte{0x00}},
		{[]byte{0x80, 0x80, 0x80, 0x80, 0x80, 0x80, 0x01}, 1 << 42, nil},
		{[]byte{0x80, 0x80, 0x80, 0x80, 0x80, 0x80, 0x80, 0x01}, 1 << 49, nil},
		{[]byte{0xFF, 0xFF, 0xFF, 0xFF, 0xFF, 0xFF, 0xFF, 0x0F}, api.MaxNumber, nil},
		{[]byte{0xFF, 0xFF, 0xFF, 0xFF, 0xFF, 0xFF, 0xFF, 0x0F, 0xFF}, api.MaxNumber, []byte{0xFF}},
	} {
		n, rest, e := varnum.TakeNum(c.b)
		if n != c.n || !bytes.Equal(rest, c.rest) || e != api.OK {
			t.Errorf("TakeNum(% X): %d, % X, error %d; want %d, % X", c.b, n, rest, e, c.n, c.rest)
		}
	}
}

// P1.1, TakeNum: each error, and nothing beside it.
func TestTakeNumRefuses(t *testing.T) {
	high := bytes.Repeat([]byte{0xFF}, 12)
	low := bytes.Repeat([]byte{0x80}, 12)
	for _, c := range []struct {
		b []byte
		e api.Errno
	}{
		{nil, api.ErrTrunc},
		{[]byte{}, api.ErrTrunc},
		{low[:1], api.ErrTrunc},
		{high[:1], api.ErrTrunc},
		{low[:7], api.ErrTrunc},
		{high[:7], api.ErrTrunc},
		{low[:8], api.ErrSyntax},
		{high[:8], api.ErrSyntax},
		{low[:9], api.ErrSyntax},
		{high, api.ErrSyntax},
		{varnum.Join(high[:8], []byte{1}), api.ErrSyntax},
		{varnum.Join(low[:8], []byte{0}), api.ErrSyntax},
		{varnum.Join(low[:9], []byte{1}), api.ErrSyntax},
		{[]byte{0x80, 0x00}, api.ErrSyntax},
		{[]byte{0xFF, 0x00}, api.ErrSyntax},
		{[]byte{0xFF, 0x00, 0x01}, api.ErrSyntax},
		{[]byte{0x80, 0x80, 0x00}, api.ErrSyntax},
		{varnum.Join(high[:7], []byte{0x00}), api.ErrSyntax},
		{varnum.Join(low[:7], []byte{0x00}), api.ErrSyntax},
		{varnum.Join(low[:7], []byte{0x10}), api.ErrSyntax},
		{varnum.Join(high[:7], []byte{0x10}), api.ErrSyntax},
		{varnum.Join(low[:7], []byte{0x20, 0x01}), api.ErrSyntax},
		{varnum.Join(low[:7], []byte{0x40}), api.ErrSyntax},
		{varnum.Join(high[:7], []byte{0x7F}), api.ErrSyntax},
	} {
		n, rest, e := varnum.TakeNum(c.b)
		if n != 0 || len(rest) != 0 || e != c.e {
			t.Errorf("TakeNum(% X): %d, % X, error %d; want error %d alone", c.b, n, rest, e, c.e)
		}
	}
}

// P1.4: numbers that were written are read as they were, and what stands behind them is left.
func TestNumIsReadAsWritten(t *testing.T) {
	tails := [][]byte{nil, {0}, {0x80}, {0xFF, 0x01, 0x00}, bytes.Repeat([]byte{0xFF}, 20)}
	for i, n := range manyNumbers() {
		tail := tails[i%len(tails)]
		m, rest, e := varnum.TakeNum(varnum.Join(mustNum(t, n), tail))
		if m != n || !bytes.Equal(rest, tail) || e != api.OK {
			t.Fatalf("of %d, and % X: %d, % X, error %d", n, tail, m, rest, e)
		}
	}
}

// P1.4: what can be read as a number is written so. (All two bytes, with one behind them, and lists of eight bytes that are edges.)
func TestNumIsWrittenAsRead(t *testing.T) {
	check := func(b []byte) {
		n, rest, e := varnum.TakeNum(b)
		if e != api.OK {
			return
		}
		if back := varnum.Join(mustNum(t, n), rest); !bytes.Equal(back, b) {
			t.Fatalf("% X is read as %d and % X, written as % X", b, n, rest, back)
		}
	}
	for n := range 1 << 16 {
		for _, c := range []byte{0x00, 0x01, 0x7F, 0x80, 0xFF} {
			check([]byte{byte(n), byte(n >> 8), c})
		}
	}
	edges := []byte{0x00, 0x0F, 0x80, 0xFF}
	for n := range 1 << 16 {
		b := make([]byte, 8)
		for i := range b {
			b[i] = edges[n>>(2*i)&3]
		}
		check(b)
	}
}

// P1.5: a number's bytes that are cut are told by ErrTrunc: so none are the beginning of another one's.
func TestNumCut(t *testing.T) {
	for _, n := range manyNumbers() {
		b := mustNum(t, n)
		for i := range b {
			if m, rest, e := varnum.TakeNum(b[:i]); m != 0 || len(rest) != 0 || e != api.ErrTrunc {
				t.Fatalf("TakeNum(% X), of %d: %d, % X, error %d; want ErrTrunc alone", b[:i], n, m, rest, e)
			}
		}
	}
}

// P1.5: held against each other, one by one.
func TestNoNumberBeginsAnother(t *testing.T) {
	var l [][]byte
	for n := range 700 {
		l = append(l, mustNum(t, n))
	}
	for p := 10; p <= 53; p++ {
		l = append(l, mustNum(t, 1<<p-1))
		if p < 53 {
			l = append(l, mustNum(t, 1<<p))
		}
	}
	noneBegins(t, l)
}

// noneBegins fails if one of l, all of unlike things, is the beginning of another one, or the same.
func noneBegins(t *testing.T, l [][]byte) {
	t.Helper()
	for i, a := range l {
		for j, b := range l {
			if i != j && bytes.HasPrefix(b, a) {
				t.Fatalf("% X begins with % X", b, a)
			}
		}
	}
}

// P1.6: of two numbers the greater one has as many bytes, or more; just where a digit more is needed.
func TestGreaterNumbersHaveNoFewerBytes(t *testing.T) {
	for size := 1; size <= 8; size++ {
		least, most := 0, api.MaxNumber
		if size > 1 {
			least = 1 << (7 * (size - 1))
		}
		if size < 8 {
			most = 1<<(7*size) - 1
		}
		for _, n := range []int{least, least + 1, (least + most) / 2, most - 1, most} {
			if b := mustNum(t, n); len(b) != size {
				t.Errorf("Num(%d) has %d bytes, want %d", n, len(b), size)
			}
		}
	}
	before := 1
	for n := range 1 << 17 {
		size := len(mustNum(t, n))
		if size < before {
			t.Fatalf("Num(%d) has %d bytes, Num(%d) %d", n, size, n-1, before)
		}
		before = size
	}
}
