package varnum_test

import (
	"bytes"
	"testing"

	"incunable/api"
	"incunable/varnum"
)

// roomy is bytes with others ahead of them and spare room behind, and the whole of both.
func roomy(b []byte) (inner, whole []byte) {
	whole = bytes.Repeat([]byte{0xA5}, len(b)+40)
	copy(whole[8:], b)
	return whole[8 : 8+len(b)], whole
}

// spoil turns every bit of b, its spare room with it.
func spoil(b []byte) {
	b = b[:cap(b)]
	for i := range b {
		b[i] ^= 0xFF
	}
}

// calls are all that take bytes, each with bytes of its own, and what it answers.
func calls() []struct {
	name string
	b    []byte
	do   func(b []byte) [][]byte
} {
	return []struct {
		name string
		b    []byte
		do   func(b []byte) [][]byte
	}{
		{"TakeNum", []byte{0xAC, 0x02, 0x07, 0x08}, func(b []byte) [][]byte {
			_, rest, _ := varnum.TakeNum(b)
			return [][]byte{rest}
		}},
		{"TakeNum, nothing left", []byte{0xAC, 0x02}, func(b []byte) [][]byte {
			_, rest, _ := varnum.TakeNum(b)
			return [][]byte{rest}
		}},
		{"TakeNum, ErrTrunc", []byte{0xAC}, func(b []byte) [][]byte {
			_, rest, _ := varnum.TakeNum(b)
			return [][]byte{rest}
		}},
		{"Text", []byte("abc"), func(b []byte) [][]byte {
			x, _ := varnum.Text(b, 3)
			return [][]byte{x}
		}},
		{"Text, ErrLimit", []byte("abc"), func(b []byte) [][]byte {
			x, _ := varnum.Text(b, 2)
			return [][]byte{x}
		}},
		{"TakeText", []byte("\x02abcde"), func(b []byte) [][]byte {
			x, rest, _ := varnum.TakeText(b, 2)
			return [][]byte{x, rest}
		}},
		{"TakeText, no bytes", []byte("\x00cde"), func(b []byte) [][]byte {
			x, rest, _ := varnum.TakeText(b, 2)
			return [][]byte{x, rest}
		}},
		{"TakeText, nothing left", []byte("\x02ab"), func(b []byte) [][]byte {
			x, rest, _ := varnum.TakeText(b, 2)
			return [][]byte{x, rest}
		}},
		{"TakeText, ErrTrunc", []byte("\x03ab"), func(b []byte) [][]byte {
			x, rest, _ := varnum.TakeText(b, 3)
			return [][]byte{x, rest}
		}},
		{"Join of one", []byte("abc"), func(b []byte) [][]byte {
			return [][]byte{varnum.Join(b)}
		}},
		{"Join of one and nothing", []byte("abc"), func(b []byte) [][]byte {
			return [][]byte{varnum.Join(nil, b, nil)}
		}},
		{"Join, first", []byte("abc"), func(b []byte) [][]byte {
			return [][]byte{varnum.Join(b, []byte("xyz"))}
		}},
		{"Join, last", []byte("abc"), func(b []byte) [][]byte {
			return [][]byte{varnum.Join([]byte("xyz"), b)}
		}},
		{"Join, twice", []byte("abc"), func(b []byte) [][]byte {
			return [][]byte{varnum.Join(b, b)}
		}},
	}
}

// P1.3: what is handed in is only read, what stands around it and its spare room with it.
func TestArgumentsAreOnlyRead(t *testing.T) {
	for _, c := range calls() {
		b, whole := roomy(c.b)
		before := bytes.Clone(whole)
		c.do(b)
		if !bytes.Equal(whole, before) {
			t.Errorf("%s: % X became % X", c.name, before, whole)
		}
	}
}

// P1.3: what is answered shares no memory with what was handed in, whoever writes.
func TestAnswersAreNewMemory(t *testing.T) {
	for _, c := range calls() {
		b, whole := roomy(c.b)
		before := bytes.Clone(whole)
		answers := c.do(b)
		var want [][]byte
		for _, a := range answers {
			want = append(want, bytes.Clone(a))
		}
		spoil(whole)
		for i, a := range answers {
			if !bytes.Equal(a, want[i]) {
				t.Errorf("%s: the answer %d changed with the argument", c.name, i)
			}
		}
		copy(whole, before)
		for _, a := range answers {
			spoil(a)
		}
		if !bytes.Equal(whole, before) {
			t.Errorf("%s: the argument changed with an answer", c.name)
		}
	}
}

// P1.3: no two lists of one answer share memory.
func TestAnswersShareNothing(t *testing.T) {
	for _, c := range calls() {
		answers := c.do(c.b)
		for i, a := range answers {
			for j, other := range answers {
				if i == j {
					continue
				}
				before := bytes.Clone(other)
				spoil(a)
				if !bytes.Equal(other, before) {
					t.Errorf("%s: the answer %d changed with the answer %d", c.name, j, i)
				}
				spoil(a)
			}
		}
	}
}

// P1.3: no two answers of one call share memory: who spoils one does not spoil the next.
func TestNextAnswersAreNewMemory(t *testing.T) {
	for _, c := range calls() {
		one := c.do(c.b)
		var want [][]byte
		for _, a := range one {
			want = append(want, bytes.Clone(a))
		}
		two := c.do(c.b)
		for _, a := range one {
			spoil(a)
		}
		three := c.do(c.b)
		for i := range want {
			if !bytes.Equal(two[i], want[i]) || !bytes.Equal(three[i], want[i]) {
				t.Errorf("%s: the answer %d was %x, then %x, then %x", c.name, i, want[i], two[i], three[i])
			}
		}
	}
	for _, n := range []int{0, 127, 128, 300, api.MaxNumber} {
		want := digitsOf(n)
		one, two := mustNum(t, n), mustNum(t, n)
		spoil(one)
		if three := mustNum(t, n); !bytes.Equal(two, want) || !bytes.Equal(three, want) {
			t.Errorf("Num(%d): % X, then % X, want % X", n, two, three, want)
		}
	}
}

// P1.3: the list of lists that is handed to Join is only read, too.
func TestJoinOnlyReadsItsList(t *testing.T) {
	a, b := []byte("ab"), []byte("cd")
	l := [][]byte{a, nil, b, []byte("spare")}
	varnum.Join(l[:3]...)
	if string(l[0]) != "ab" || l[1] != nil || string(l[2]) != "cd" || string(l[3]) != "spare" || &l[0][0] != &a[0] || &l[2][0] != &b[0] {
		t.Errorf("the list became %q", l)
	}
}
