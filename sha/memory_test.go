package sha_test

import (
	"bytes"
	"testing"

	"incunable/sha"
)

// inRoom is bytes with others ahead of them and spare room behind, and the whole of both.
func inRoom(b []byte) (inner, whole []byte) {
	whole = bytes.Repeat([]byte{0xA5}, len(b)+200)
	copy(whole[8:], b)
	return whole[8 : 8+len(b)], whole
}

// spoil turns every bit of b, its spare room with it.
func spoil(b []byte) {
	b = b[:cap(b)]
	for i := range b {
		b[i] ^= 0xFF
	}
}

// lengths are those around the ends of blocks.
func lengths() []int {
	return []int{0, 1, 8, 54, 55, 56, 57, 63, 64, 65, 118, 119, 120, 121, 127, 128, 129, 300}
}

// P4.6: what is handed in is only read, its spare room and what stands ahead of it too; also where it is refused.
func TestArgumentsAreOnlyRead(t *testing.T) {
	m := mixer(71)
	for _, n := range lengths() {
		inner, whole := inRoom(m.bytes(n))
		before := bytes.Clone(whole)
		sha.Of(inner)
		sha.Block(m.words(), inner)
		spoil(sha.Pad(inner))
		if !bytes.Equal(whole, before) {
			t.Errorf("with %d bytes: % x became % x", n, before, whole)
		}
	}
}

// P4.6: what stands around the bytes has no say.
func TestOnlyTheListCounts(t *testing.T) {
	m := mixer(72)
	for _, n := range lengths() {
		b := m.bytes(n)
		inner, whole := inRoom(b)
		for _, fill := range []byte{0, 0x80, 0xFF} {
			for i := range whole {
				if i < 8 || i >= 8+n {
					whole[i] = fill
				}
			}
			if sha.Of(inner) != digestOf(b) || !bytes.Equal(sha.Pad(inner), padded(b)) {
				t.Errorf("%d bytes, in %02x: %x, % x", n, fill, sha.Of(inner), sha.Pad(inner))
			}
		}
	}
}

// P4.6: what Pad answers does not change with the bytes, nor with another answer, and has room of its own.
func TestPadAnswersNewMemory(t *testing.T) {
	m := mixer(73)
	for _, n := range lengths() {
		b := m.bytes(n)
		want := padded(b)
		one, two := sha.Pad(b), sha.Pad(b)
		spoil(one)
		_ = append(one, 1, 2, 3, 4)
		three := sha.Pad(b)
		spoil(b)
		if !bytes.Equal(two, want) || !bytes.Equal(three, want) {
			t.Errorf("%d bytes: an answer changed with the bytes, or with another one", n)
		}
	}
}

// P4.6: words and digests that are handed in are copies: what is answered is not put over them.
func TestWordsAreCopies(t *testing.T) {
	m := mixer(74)
	h, d := m.words(), m.digest()
	wasH, wasD := h, d
	b := m.bytes(64)
	got := mustBlock(t, h, b)
	got[0]++
	s := sha.Hex(d)
	parsed, _ := sha.Parse(s)
	parsed[0]++
	if h != wasH || d != wasD || s != sha.Hex(d) {
		t.Errorf("%08x became %08x, %x became %x", wasH, h, wasD, d)
	}
	begun := sha.Begin()
	begun[0]++
	if sha.Begin() != publishedBegin() {
		t.Errorf("Begin() = %08x", sha.Begin())
	}
}

// P4.6, R2: nothing is kept from call to call: the same question is answered alike, whatever was asked between, and whatever became of what was handed in.
func TestCallsDoNotHangTogether(t *testing.T) {
	m := mixer(75)
	h, b := m.words(), m.bytes(64)
	of, block, pad := digestOf(b), blockOf(h, b), padded(b)
	for i := range 200 {
		other := m.bytes(i)
		sha.Of(other)
		sha.Pad(other)
		sha.Block(m.words(), m.bytes(60+i%10))
		sha.Root(2+i%3, i*7)
		sha.Parse(digits64("f0"))
		sha.Hex(m.digest())
		spoil(other)
		if got := mustBlock(t, h, b); sha.Of(b) != of || got != block || !bytes.Equal(sha.Pad(b), pad) || sha.Begin() != publishedBegin() {
			t.Fatalf("behind %d rounds of other calls something is answered otherwise", i+1)
		}
		rootIs(t, 3, 2, 0x428a2f98)
	}
	spoilt := bytes.Clone(b)
	spoilt[63] ^= 1
	if sha.Of(spoilt) == of || sha.Of(spoilt) != digestOf(spoilt) {
		t.Errorf("a bit was turned: %x", sha.Of(spoilt))
	}
}

// R2: calls at the same time are answered as if they came one behind the other.
func TestCallsAtTheSameTime(t *testing.T) {
	const calls = 16
	wrong := make(chan int, calls)
	for i := range calls {
		go func() {
			m := mixer(80 + i)
			bad := 0
			for n := range 60 {
				b := m.bytes(n * 5)
				if sha.Of(b) != digestOf(b) || !bytes.Equal(sha.Pad(b), padded(b)) {
					bad++
				}
			}
			wrong <- bad
		}()
	}
	for range calls {
		if bad := <-wrong; bad > 0 {
			t.Errorf("%d wrong answers", bad)
		}
	}
}
