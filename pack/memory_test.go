package pack_test

import (
	"bytes"
	"testing"

	"incunable/api"
	"incunable/pack"
)

// shelfOf is sections whose data all lie in one piece of memory, with room around each, and which have spare room themselves: the list, all of its array, and the memory.
func shelfOf() (l, all []api.Section, memory []byte) {
	m := mixer(10)
	memory = m.bytes(400)
	all = []api.Section{
		section(3, memory[10:10]),
		section(4, memory[20:21]),
		section(9, memory[30:130]),
		section(200, memory[150:350]),
		section(201, memory[360:370]),
		section(202, memory[380:]),
	}
	return all[:4], all, memory
}

// lookUnchanged runs do and fails if anything of the shelf is another behind it.
func lookUnchanged(t *testing.T, what string, do func(l []api.Section)) {
	t.Helper()
	l, all, memory := shelfOf()
	before := bytes.Clone(memory)
	do(l)
	if !bytes.Equal(memory, before) {
		t.Errorf("%s: the data changed", what)
	}
	_, want, _ := shelfOf()
	for i := range all {
		if all[i].Tag != want[i].Tag || len(all[i].Data) != len(want[i].Data) || cap(all[i].Data) != cap(want[i].Data) || len(all[i].Data) > 0 && &all[i].Data[0] != &memory[len(memory)-cap(all[i].Data)] {
			t.Errorf("%s: the section %d of the list changed", what, i)
		}
	}
}

// P3.4: what is handed in as sections is only read, its spare room too; also where it is refused.
func TestSectionsAreOnlyRead(t *testing.T) {
	lookUnchanged(t, "Pack", func(l []api.Section) { pack.Pack(7, l) })
	lookUnchanged(t, "Pack of no kind", func(l []api.Section) { pack.Pack(-1, l) })
	lookUnchanged(t, "Pack of none", func(l []api.Section) { pack.Pack(7, l[:0]) })
	lookUnchanged(t, "Find", func(l []api.Section) { pack.Find(l, 9) })
	lookUnchanged(t, "Find of no data", func(l []api.Section) { pack.Find(l, 3) })
	lookUnchanged(t, "Find of none", func(l []api.Section) { pack.Find(l, 77) })
	lookUnchanged(t, "spoilt answers", func(l []api.Section) {
		b, _ := pack.Pack(7, l)
		spoil(b)
		for _, tag := range []int{3, 4, 9, 200} {
			data, _ := pack.Find(l, tag)
			spoil(data)
		}
	})
}

// inRoom is bytes with others ahead of them and spare room behind, and the whole of both.
func inRoom(b []byte) (inner, whole []byte) {
	whole = bytes.Repeat([]byte{0xA5}, len(b)+40)
	copy(whole[8:], b)
	return whole[8 : 8+len(b)], whole
}

// spoil turns every bit of b, its spare room with it.
func spoil(b []byte) {
	b = b[:cap(b)]
	for i := range b {
		b[i] ^= 0xFF
	}
}

// manyBytes are a pack, and bytes that are refused for each reason there is.
func manyBytes() map[string][]byte {
	_, _, b := example()
	wrong := bytes.Clone(b)
	wrong[12] ^= 1
	return map[string][]byte{
		"a pack":         b,
		"without any":    around(1, nil),
		"a wrong sum":    wrong,
		"a cut one":      b[:14],
		"all but a byte": b[:15],
		"the head":       b[:6],
		"a wrong mark":   append([]byte("PI"), b[2:]...),
		"too much":       append(bytes.Clone(b), 1, 2),
		"no sections":    around(1, []byte{1, 1, 'a', 0, 0}),
		"nothing":        {},
	}
}

// P3.4: bytes that are handed in are only read, what stands around them too: a sum that is worked out is not put there.
func TestBytesAreOnlyRead(t *testing.T) {
	for name, b := range manyBytes() {
		inner, whole := inRoom(b)
		before := bytes.Clone(whole)
		pack.Size(inner)
		_, l, _ := pack.Unpack(inner)
		if !bytes.Equal(whole, before) {
			t.Errorf("%s: % X became % X", name, before, whole)
		}
		for _, s := range l {
			spoil(s.Data)
		}
		if !bytes.Equal(whole, before) {
			t.Errorf("%s: the bytes changed with the answer", name)
		}
	}
}

// P3.4: what stands around bytes that are handed in has no say.
func TestOnlyTheBytesCount(t *testing.T) {
	for name, b := range manyBytes() {
		inner, whole := inRoom(b)
		kind, l, e := pack.Unpack(bytes.Clone(b))
		size, es := pack.Size(bytes.Clone(b))
		for _, fill := range []byte{0, 0x49, 0xFF} {
			for i := range whole {
				if i < 8 || i >= 8+len(b) {
					whole[i] = fill
				}
			}
			if k, m, f := pack.Unpack(inner); k != kind || !sameSections(m, l) || f != e {
				t.Errorf("%s, in %02X: %d, %d sections, error %d; want %d, %d sections, error %d", name, fill, k, len(m), f, kind, len(l), e)
			}
			if n, f := pack.Size(inner); n != size || f != es {
				t.Errorf("%s, in %02X: Size %d, error %d; want %d, error %d", name, fill, n, f, size, es)
			}
		}
	}
}

// P3.4: what Pack and Find answer does not change with what was handed in, nor with other answers.
func TestPackAndFindAnswerNewMemory(t *testing.T) {
	l, _, memory := shelfOf()
	want := bytesOf(7, l)
	var found, data [][]byte
	for _, s := range l {
		x, _ := pack.Find(l, s.Tag)
		found, data = append(found, x), append(data, bytes.Clone(s.Data))
	}
	one, two := mustPack(t, 7, l), mustPack(t, 7, l)
	spoil(one)
	again, _ := pack.Find(l, 9)
	spoil(again)
	three := mustPack(t, 7, l)
	spoil(memory)
	if !bytes.Equal(two, want) || !bytes.Equal(three, want) {
		t.Error("an answer of Pack changed with another one, or with the data")
	}
	for i := range found {
		if !bytes.Equal(found[i], data[i]) {
			t.Errorf("the data %d that were found changed", i)
		}
	}
}

// P3.4: what Unpack answers does not change with the bytes, and none of its lists with another one.
func TestUnpackAnswersNewMemory(t *testing.T) {
	l, _, _ := shelfOf()
	want := bytesOf(7, l)
	b := bytes.Clone(want)
	_, one, _ := pack.Unpack(b)
	_, two, _ := pack.Unpack(b)
	spoil(b)
	if !sameSections(one, l) || !sameSections(two, l) {
		t.Fatal("the sections changed with the bytes")
	}
	for i := range one {
		spoil(one[i].Data)
		for j := range one {
			if i != j && !bytes.Equal(one[j].Data, l[j].Data) {
				t.Errorf("the data %d changed with the data %d", j, i)
			}
		}
		spoil(one[i].Data)
	}
	for i := range one {
		spoil(one[i].Data)
		one[i] = api.Section{}
	}
	if !sameSections(two, l) {
		t.Error("one answer changed with another one")
	}
	unpacksTo(t, "the same bytes", want, 7, l)
}

// P3.4: data that are put behind found or unpacked ones do not get into others.
func TestAnswersHaveRoomOfTheirOwn(t *testing.T) {
	l, _, _ := shelfOf()
	_, got, _ := pack.Unpack(bytesOf(7, l))
	for i := range got {
		_ = append(got[i].Data, 1, 2, 3, 4, 5, 6, 7, 8)
		if !sameSections(got, l) {
			t.Fatalf("what was put behind the data %d changed others", i)
		}
	}
	lookUnchanged(t, "what was put behind found data", func(l []api.Section) {
		for _, s := range l {
			data, _ := pack.Find(l, s.Tag)
			_ = append(data, 1, 2, 3, 4, 5, 6, 7, 8)
		}
	})
}

// R2: nothing is kept from call to call: the same question is answered alike, whatever was asked between.
func TestCallsDoNotHangTogether(t *testing.T) {
	kind, l, b := example()
	m := mixer(11)
	for range 100 {
		pack.Pack(m.below(300), m.sections())
		pack.Unpack(m.bytes(m.below(40)))
		pack.Unpack(b[:m.below(16)])
		if got := mustPack(t, kind, l); !bytes.Equal(got, b) {
			t.Fatalf("Pack: % X", got)
		}
		unpacksTo(t, "the example", b, kind, l)
	}
}
