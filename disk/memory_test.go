package disk_test

import (
	"bytes"
	"slices"
	"testing"
	"unsafe"

	"incunable/api"
	"incunable/disk"
)

// inRoom is bytes with others ahead of them and spare room behind, and the whole of both.
func inRoom(b []byte) (inner, whole []byte) {
	whole = bytes.Repeat([]byte{0xA5}, len(b)+100)
	copy(whole[8:], b)
	return whole[8 : 8+len(b)], whole
}

// spoil turns every bit of b, its spare room with it.
func spoil(b []byte) {
	b = b[:cap(b)]
	for i := range b {
		b[i] ^= 0xFF
	}
}

// P5.6: what is appended is only read, its spare room too; also by what is done to the file later.
func TestAppendOnlyReads(t *testing.T) {
	d := newDisk(t, 1000)
	inner, whole := inRoom([]byte("text"))
	before := bytes.Clone(whole)
	for _, e := range []api.Errno{d.Append("a", inner), d.Append("a", []byte("more")), d.Turn("a", 0, 0), d.Cut("a", 1), d.Append("a", inner), d.Append("a", inner[:0]), d.Append("b", inner[:0]), d.Append("b", []byte("1"))} {
		answers(t, e, api.OK)
	}
	answers(t, d.Append("", inner), api.ErrName)
	answers(t, d.Append("c", whole[:0:0]), api.OK)
	d.Fail(0, nil)
	answers(t, d.Append("a", inner), api.ErrDead)
	answers(t, d.Append("a", inner), api.ErrDead)
	if !bytes.Equal(whole, before) {
		t.Errorf("% x became % x", before, whole)
	}
}

// P5.6: what is appended is not kept: it may change behind the call, of a file that is born, and of one that grows.
func TestAppendKeepsNothing(t *testing.T) {
	d := newDisk(t, 1000)
	for _, n := range []int{1, 3, 8, 32, 33, 100} {
		b := bytes.Repeat([]byte("x"), n)
		answers(t, d.Append("a", b), api.OK)
		spoil(b)
		readIs(t, d, "a", string(bytes.Repeat([]byte("x"), n)))
		answers(t, d.Cut("a", 0), api.OK)
		answers(t, d.Append("b", nil), api.OK)
		answers(t, d.Remove("b"), api.OK)
		b = bytes.Repeat([]byte("y"), n)
		answers(t, d.Append("b", b), api.OK)
		spoil(b)
		readIs(t, d, "b", string(bytes.Repeat([]byte("y"), n)))
		answers(t, d.Remove("b"), api.OK)
		answers(t, d.SyncNames(), api.OK)
	}
}

// P5.6: names that are handed in are not kept: those that are answered lie elsewhere.
func TestNamesAreNotKept(t *testing.T) {
	text := "the name of a birth, the name that is given"
	birth, given := text[:19], text[21:]
	for _, name := range []string{birth, given} {
		d := newDisk(t, 10)
		answers(t, d.Append(birth, nil), api.OK)
		if name == given {
			answers(t, d.Rename(birth, given), api.OK)
		}
		for range 2 {
			namesAre(t, d, name)
			if unsafe.StringData(d.Names()[0]) == unsafe.StringData(name) {
				t.Errorf("%q is kept", name)
			}
			answers(t, d.SyncNames(), api.OK)
			d.Crash(nil)
			d.Boot()
		}
	}
}

// P5.6: numbers to keep by are only read, and those of Fail are not kept.
func TestNumbersAreNotKept(t *testing.T) {
	whole := []int{77, 1, 2, 3, 88, 99}
	keep := whole[1:4]
	x := newBoth(t, 100)
	x.does(appends("a", []byte("1234")), appends("b", []byte("1234")))
	x.d.Fail(1, keep)
	x.m.fail(1, keep)
	for i := range whole {
		whole[i] = 0
	}
	x.does(appends("c", nil), appends("c", nil)).boots()
	namesAre(t, x.d, "a")
	readIs(t, x.d, "a", "12")

	whole = []int{77, 1, -2, 3, 88, 99}
	before := slices.Clone(whole)
	d := withFiles(t)
	d.Fail(0, whole[1:4])
	answers(t, d.Append("a", []byte("1234")), api.ErrDead)
	d.Boot()
	answers(t, d.Append("a", []byte("1234")), api.OK)
	d.Crash(whole[1:4])
	d.Crash(whole[1:4])
	d.Fail(3, whole[:2])
	if !slices.Equal(whole, before) {
		t.Errorf("%d became %d", before, whole)
	}
}

// P5.6: what Read answers does not change the file, nor another answer; nothing that is done to the file changes it.
func TestReadAnswersNewMemory(t *testing.T) {
	d := newDisk(t, 1000)
	for _, n := range []int{1, 8, 31, 200} {
		answers(t, d.Append("a", bytes.Repeat([]byte("x"), n)), api.OK)
		all, _ := d.Read("a")
		want := string(all)
		one, _ := d.Read("a")
		two, _ := d.Read("a")
		spoil(one)
		_ = append(one, 1, 2, 3)
		readIs(t, d, "a", want)
		for _, e := range []api.Errno{d.Turn("a", 0, 1), d.Turn("a", 0, 1), d.Append("a", []byte("more")), d.Turn("a", 0, 0), d.Cut("a", 0), d.Append("a", bytes.Repeat([]byte("z"), len(two)))} {
			answers(t, e, api.OK)
		}
		if string(two) != want {
			t.Errorf("%q became %q", want, two)
		}
		// What is put behind an answer does not get into the file that grows.
		three, _ := d.Read("a")
		three = append(three, "ab"...)
		answers(t, d.Append("a", []byte("cd")), api.OK)
		if string(three[len(three)-2:]) != "ab" {
			t.Errorf("an answer grew with the file: %q", three)
		}
		four, _ := d.Read("a")
		_ = append(four, "ab"...)
		readIs(t, d, "a", string(four))
	}
}

// P5.6: what Names answers is nobody else's.
func TestNamesAnswersNewMemory(t *testing.T) {
	d := withFiles(t)
	one, two := d.Names(), d.Names()
	one[0], one[1] = "x", "y"
	_ = append(one, "z")
	answers(t, d.Remove("a"), api.OK)
	if !slices.Equal(two, []string{"a", "b"}) {
		t.Errorf("names: %q", two)
	}
	namesAre(t, d, "b")
}

// P5.6, R1: with an error, whichever, nothing has changed: neither what is to be seen, nor what a fall would leave.
func TestErrorsChangeNothing(t *testing.T) {
	_, refused := allWorks()
	for _, keep := range [][]int{nil, {1}, {2}, {3, 1, 1, 1}, {4, 1, 2}, {5, 2, 1, 1}, {-1, -1, -1, -1}} {
		for i, r := range refused {
			calm, d := withFiles(t), withFiles(t)
			for _, it := range []*disk.Disk{calm, d} {
				for _, e := range []api.Errno{it.Cut("b", 0), it.Append("c", []byte("12")), it.Rename("b", "d"), it.Append("d", []byte("3"))} {
					answers(t, e, api.OK)
				}
				if it == d && r(d) == api.OK {
					t.Fatalf("call %d is not refused", i)
				}
				answers(t, it.Append("a", []byte("4")), api.OK)
				answers(t, it.Append("e", nil), api.OK)
			}
			d.Crash(keep)
			calm.Crash(keep)
			d.Boot()
			calm.Boot()
			namesAre(t, d, calm.Names()...)
			leftIs(t, d, calm.Left())
			for _, name := range calm.Names() {
				b, _ := calm.Read(name)
				readIs(t, d, name, string(b))
			}
		}
	}
}
