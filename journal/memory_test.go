package journal_test

import (
	"bytes"
	"slices"
	"testing"

	"incunable/api"
	"incunable/disk"
	"incunable/journal"
)

// inRoom is a text's bytes with others ahead of them and spare room behind, and the whole of both.
func inRoom(text string) (inner, whole []byte) {
	whole = bytes.Repeat([]byte{0xA5}, len(text)+100)
	copy(whole[8:], text)
	return whole[8 : 8+len(text)], whole
}

// spoil turns every bit of b, its spare room with it.
func spoil(b []byte) {
	b = b[:cap(b)]
	for i := range b {
		b[i] ^= 0xFF
	}
}

// P6.5: what Record and Records are handed is only read, its spare room too; what they answer is new memory.
func TestRecordIsNewMemory(t *testing.T) {
	for _, text := range []string{"", "a", "sixteen bytes or", long(100), long(3000)} {
		inner, whole := inRoom(text)
		before := bytes.Clone(whole)
		r, e := journal.Record(1, inner)
		other, f := journal.Record(1, inner)
		must(t, e, f)
		if !bytes.Equal(whole, before) {
			t.Fatalf("%x became %x", before, whole)
		}
		spoil(other)
		spoil(inner)
		if !bytes.Equal(r, record(1, text)) {
			t.Fatalf("Record of %q changed: %x", text, r)
		}
		spoil(inner)
		spoil(r)
		if !bytes.Equal(whole, before) {
			t.Fatalf("%x became %x", before, whole)
		}
	}
}

// P6.5: of records that are told none lies in what was handed in, nor in another one, its spare room neither.
func TestRecordsAreNewMemory(t *testing.T) {
	want := []string{"a", "", "b", long(33), "", "torn soon"}
	for _, cut := range []int{0, 1, 20} {
		text := string(written(want...))
		inner, whole := inRoom(text[:len(text)-cut])
		before := bytes.Clone(whole)
		l, end, e := journal.Records(inner)
		must(t, e)
		all := want
		if cut > 0 {
			all = want[:5]
		}
		if !slices.Equal(texts(l), all) || end != len(written(all...)) || !bytes.Equal(whole, before) {
			t.Fatalf("%q, to %d", l, end)
		}
		spoil(inner)
		for i := range l {
			if !slices.Equal(texts(l[i:]), all[i:]) {
				t.Fatalf("from %d on: %q", i, l[i:])
			}
			spoil(l[i])
			_ = append(l[i], "over the end"...)
		}
		spoil(inner)
		if !bytes.Equal(whole, before) {
			t.Fatalf("%x became %x", before, whole)
		}
	}
	b := append(written("a"), record(3, "b")...)
	before := bytes.Clone(b)
	recordsAreWrong(t, b)
	if !bytes.Equal(b, before) {
		t.Fatalf("%x became %x", before, b)
	}
}

// P6.5: the records that Open tells are nobody else's: neither the disk's, nor the journal's, nor one another's.
func TestOpenAnswersNewMemory(t *testing.T) {
	want := []string{"a", "", "bcd", long(50)}
	d, _ := begun(t, 1000, want...)
	_, l, e := journal.Open(d)
	j, other, f := journal.Open(d)
	must(t, e, f)
	for i := range l {
		if !slices.Equal(texts(l[i:]), want[i:]) {
			t.Fatalf("from %d on: %q", i, l[i:])
		}
		spoil(l[i])
		_ = append(l[i], "over the end"...)
	}
	l[0] = nil
	if !slices.Equal(texts(other), want) {
		t.Fatalf("%q", other)
	}
	must(t, j.Append([]byte("e")), d.Turn("journal", 16, 0), d.Cut("journal", 0))
	if !slices.Equal(texts(other), want) {
		t.Fatalf("%q", other)
	}
	opens(t, d)
}

// P6.5: what Append is handed is only read, and not kept: it may change behind the call.
func TestAppendKeepsNothing(t *testing.T) {
	d, j := begun(t, 1<<20)
	var want []string
	for _, text := range []string{"a", "", long(64), long(1000)} {
		inner, whole := inRoom(text)
		before := bytes.Clone(whole)
		must(t, j.Append(inner))
		if !bytes.Equal(whole, before) {
			t.Fatalf("%x became %x", before, whole)
		}
		spoil(inner)
		want = append(want, text)
		hasFiles(t, d, "journal", string(written(want...)))
	}
	inner, whole := inRoom(long(api.MaxPack + 1))
	before := bytes.Clone(whole)
	answers(t, j.Append(inner), api.ErrLimit)
	d.Crash([]int{1, -1})
	answers(t, j.Append(inner[:5]), api.ErrDead)
	answers(t, j.Append(inner[:5]), api.ErrDead)
	if !bytes.Equal(whole, before) {
		t.Fatal("what was refused has changed")
	}
}

// P6.5: what Checkpoint is handed is only read, the list and each record, spare room too, and not kept.
func TestCheckpointKeepsNothing(t *testing.T) {
	want := []string{"a", "", "bcd", long(200)}
	var l, wholes, befores [][]byte
	for _, text := range want {
		inner, whole := inRoom(text)
		l, wholes, befores = append(l, inner), append(wholes, whole), append(befores, bytes.Clone(whole))
	}
	list := append(l, []byte("spare"))[:len(want)]
	unchanged := func() {
		t.Helper()
		for i := range wholes {
			if !bytes.Equal(wholes[i], befores[i]) || &list[i][:1][0] != &wholes[i][8] {
				t.Fatalf("record %d: %x became %x", i, befores[i], wholes[i])
			}
		}
		if string(list[:len(want)+1][len(want)]) != "spare" {
			t.Fatal("the list's spare room has changed")
		}
	}
	d, j := begun(t, 1000, "x")
	must(t, j.Checkpoint(list))
	unchanged()
	for i := range wholes {
		spoil(wholes[i])
	}
	tells(t, j, 4, 4)
	hasFiles(t, d, "journal", string(written(want...)))
	for i := range wholes {
		spoil(wholes[i])
	}
	must(t, j.Append([]byte("behind")))
	answers(t, j.Checkpoint(append(slices.Clip(list), make([]byte, 900))), api.ErrSpace)
	answers(t, j.Checkpoint(append(slices.Clip(list), make([]byte, api.MaxPack+1))), api.ErrLimit)
	d.Fail(2, nil)
	answers(t, j.Checkpoint(list), api.ErrDead)
	answers(t, j.Checkpoint(list), api.ErrDead)
	unchanged()
}

// P6.5, R2: with an error, but ErrDead as said, nothing has changed: neither what is to be seen, nor what a fall would leave.
func TestErrorsChangeNothing(t *testing.T) {
	calls := []func(j *journal.Journal) api.Errno{
		func(j *journal.Journal) api.Errno { return j.Append(make([]byte, api.MaxPack+1)) },
		func(j *journal.Journal) api.Errno { return j.Append(make([]byte, 1000)) },
		func(j *journal.Journal) api.Errno { return j.Checkpoint(make([][]byte, 10001)) },
		func(j *journal.Journal) api.Errno { return j.Checkpoint(lists("a", long(api.MaxPack+1))) },
		func(j *journal.Journal) api.Errno { return j.Checkpoint(lists("a", long(1000))) },
	}
	for i, call := range calls {
		for _, keep := range [][]int{nil, {1}, {0, 5}, {2, 21, 3}, {-1, -1, -1}} {
			var got [2]*disk.Disk
			for k := range got {
				d, j := begun(t, 200, "a")
				must(t, j.Append([]byte("b")))
				if k == 1 && call(j) == api.OK {
					t.Fatalf("call %d is not refused", i)
				}
				tells(t, j, 2, 1)
				must(t, j.Append([]byte("c")), j.Sync())
				d.Fail(3, keep)
				answers(t, j.Checkpoint(lists("1")), api.ErrDead)
				d.Boot()
				got[k] = d
			}
			_, l, _ := journal.Open(got[0])
			opens(t, got[1], texts(l)...)
		}
	}
}
