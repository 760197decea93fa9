package journal_test

import (
	"bytes"
	"slices"
	"testing"

	"incunable/api"
	"incunable/disk"
	"incunable/journal"
)

// P6.2: the chapter's examples; also by a Fail at the next work.
func TestExamples(t *testing.T) {
	for _, c := range []struct {
		keep []int
		want []string
	}{
		{nil, []string{"a", ""}},
		{[]int{0, 20}, []string{"a", ""}},
		{[]int{0, 21}, []string{"a", "", "b"}},
		{[]int{0, 1}, []string{"a", ""}},
		{[]int{0, 16}, []string{"a", ""}},
		{[]int{5, 22}, []string{"a", ""}},
		{[]int{5, -1}, []string{"a", "", "b"}},
	} {
		for _, way := range []string{"Crash", "Fail"} {
			d := newDisk(t, 1000)
			j := opens(t, d)
			tells(t, j, 0, 0)
			must(t, j.Append([]byte("a")), j.Append([]byte("")), j.Sync(), j.Append([]byte("b")))
			tells(t, j, 3, 2)
			if way == "Crash" {
				d.Crash(c.keep)
				tells(t, j, 3, 2)
			} else {
				d.Fail(0, c.keep)
			}
			answers(t, j.Sync(), api.ErrDead)
			isBroken(t, j)
			d.Boot()
			isBroken(t, j)
			opens(t, d, c.want...)
			hasFiles(t, d, "journal", string(written(c.want...)))
		}
	}
}

// P6.2: nil; one that New did not make; a dead one, whatever is on it.
func TestOpenOfNone(t *testing.T) {
	for range 2 {
		refuses(t, nil, api.ErrNil)
		refuses(t, &disk.Disk{}, api.ErrNil)
		refuses(t, new(disk.Disk), api.ErrNil)
	}
	var none disk.Disk
	none.Crash(nil)
	refuses(t, &none, api.ErrNil)
	for _, name := range []string{"", "journal", "journal.new"} {
		d := newDisk(t, 100)
		d.Append(name, []byte("which is no record"))
		d.SyncNames()
		d.Crash([]int{0, 18})
		refuses(t, d, api.ErrDead)
		refuses(t, d, api.ErrDead)
		d.Boot()
		if name == "" {
			hasFiles(t, d)
		} else {
			hasFiles(t, d, name, "which is no record")
		}
	}
}

// isKept fails unless just these files stay behind a fall of which nothing is kept.
func isKept(t *testing.T, d *disk.Disk, want ...string) {
	t.Helper()
	hasFiles(t, d, want...)
	hasFiles(t, falls(d), want...)
}

// P6.2: where there is no file it is made, and kept; also without any room.
func TestOpenOfANewDisk(t *testing.T) {
	for _, room := range []int{0, 1, 15, 100} {
		d := newDisk(t, room)
		opens(t, d)
		isKept(t, d, "journal", "")
		opens(t, d)
		isKept(t, d, "journal", "")
	}
	d := newDisk(t, 100)
	must(t, d.Append("journals", []byte("x")), d.Append("a", []byte("y")))
	opens(t, d)
	hasFiles(t, d, "a", "y", "journal", "", "journals", "x")
	hasFiles(t, falls(d), "a", "", "journal", "", "journals", "")
}

// P6.2: three works on a new disk; as many on one with a journal, or two; one more each where "journal.new" is.
func TestWorksOfOpen(t *testing.T) {
	for _, c := range []struct {
		journal, next string
		works         int
	}{
		{"none", "none", 3}, {"none", "x", 4},
		{"", "none", 2}, {"", "x", 3},
		{string(written("a")), "none", 2}, {string(written("a")), "", 3},
		{string(written("a")) + "torn", "none", 3}, {string(written("a")) + "torn", "x", 4},
		{"torn", "none", 3},
	} {
		for n := range 6 {
			d := newDisk(t, 100)
			if c.journal != "none" {
				must(t, d.Append("journal", []byte(c.journal)))
			}
			if c.next != "none" {
				must(t, d.Append("journal.new", []byte(c.next)))
			}
			d.Fail(n, nil)
			if n < c.works {
				refuses(t, d, api.ErrDead)
				continue
			}
			if _, _, e := journal.Open(d); e != api.OK {
				t.Errorf("%q, %q, power for %d works: error %d", c.journal, c.next, n, e)
			}
			for range n - c.works {
				must(t, d.SyncNames())
			}
			answers(t, d.SyncNames(), api.ErrDead)
		}
	}
}

// P6.2: "journal.new" is removed, whatever it has, and whatever else there is; that it is gone is kept.
func TestOpenWithANewFile(t *testing.T) {
	for _, next := range []string{"", "x", string(written("b", "c")), string(written("b")[:10]), "which is no record"} {
		for _, l := range [][]string{{}, {"a"}, {"a", "", "b"}} {
			d := newDisk(t, 500)
			must(t, d.Append("journal", written(l...)), d.Append("journal.new", []byte(next)), d.SyncNames())
			opens(t, d, l...)
			isKept(t, d, "journal", string(written(l...)))
		}
		d := newDisk(t, 500)
		must(t, d.Append("journal.new", []byte(next)), d.Sync("journal.new"), d.SyncNames())
		opens(t, d)
		isKept(t, d, "journal", "")
	}
}

// P6.2: a torn end is cut off, wherever it is torn, and never comes back; what is there is synced.
func TestOpenWithATornEnd(t *testing.T) {
	for _, l := range [][]string{{}, {"a"}, {"", "bc"}} {
		whole := written(l...)
		r := record(uint64(len(l)+1), "torn")
		for cut := range len(r) {
			for _, synced := range []int{0, len(whole), len(whole) + cut} {
				d := newDisk(t, 500)
				b := append(bytes.Clone(whole), r[:cut]...)
				must(t, d.Append("journal", b[:synced]), d.Sync("journal"), d.Append("journal", b[synced:]))
				opens(t, d, l...)
				isKept(t, d, "journal", string(whole))
				j := opens(t, d, l...)
				must(t, j.Append([]byte("behind")), j.Sync())
				opens(t, falls(d), append(slices.Clone(l), "behind")...)
			}
		}
	}
}

// P6.2: of a wrong record all is as it was: nothing is cut, nothing synced; but "journal.new" is gone.
func TestOpenWithAWrongRecord(t *testing.T) {
	for _, b := range [][]byte{
		make([]byte, 16),
		record(2, "a"),
		append(written("a"), record(1, "b")...),
		append(written("a"), headOf(262145, 2)...),
		append(written("a", "b"), "sixteen bytes or"...),
		append(written("a")[:20], written("b")...),
		append(written("a"), append(record(2, "x")[:20], "more"...)...),
	} {
		for _, next := range []bool{false, true} {
			d := newDisk(t, 500)
			must(t, d.Append("journal", nil), d.SyncNames(), d.Append("journal", b))
			if next {
				must(t, d.Append("journal.new", []byte("x")))
			}
			refuses(t, d, api.ErrCorrupt)
			hasFiles(t, d, "journal", string(b))
			if next {
				// Of works on names two are remembered: that it is born, and that it is gone.
				hasFiles(t, falls(d, 1), "journal", "", "journal.new", "")
			} else {
				hasFiles(t, falls(d), "journal", "")
			}
		}
	}
}

// P6.2: a wrong record is told ahead of any work: the power does not go.
func TestOpenWithAWrongRecordDoesNoWork(t *testing.T) {
	d := laid(t, record(2, "a"))
	d.Fail(0, nil)
	refuses(t, d, api.ErrCorrupt)
	refuses(t, d, api.ErrCorrupt)
	if d.Dead() {
		t.Error("it is dead")
	}
	d = laid(t, record(2, "a"))
	must(t, d.Append("journal.new", nil))
	d.Fail(0, nil)
	refuses(t, d, api.ErrDead)
	d.Boot()
	refuses(t, d, api.ErrCorrupt)
}

// P6.2: a disk that has more than its room has none for a file without bytes; one that has a journal needs none.
func TestOpenOfADiskThatHasTooMuch(t *testing.T) {
	tooFull := func(ahead func(d *disk.Disk)) *disk.Disk {
		d := newDisk(t, 10)
		ahead(d)
		must(t, d.SyncNames(), d.Append("a", []byte("12345")), d.Append("b", []byte("12345")), d.Remove("a"), d.Append("b", []byte("67890")))
		d.Crash([]int{2, -1, -1, -1})
		d.Boot()
		if d.Left() >= 0 {
			t.Fatalf("left: %d", d.Left())
		}
		return d
	}
	d := tooFull(func(d *disk.Disk) { must(t, d.Append("c", nil)) })
	for range 2 {
		refuses(t, d, api.ErrSpace)
		hasFiles(t, d, "a", "12345", "b", "1234567890", "c", "")
	}
	must(t, d.Remove("a"), d.SyncNames())
	opens(t, d)

	d = tooFull(func(d *disk.Disk) { must(t, d.Append("journal", nil)) })
	for range 2 {
		j := opens(t, d)
		answers(t, j.Append(nil), api.ErrSpace)
		answers(t, j.Checkpoint(nil), api.ErrSpace)
		must(t, j.Sync())
		tells(t, j, 0, 0)
	}
	hasFiles(t, d, "a", "12345", "b", "1234567890", "journal", "")
}

// P6.2, P6.4: all records are kept behind Open, also those that were not synced ahead of it.
func TestOpenKeepsAll(t *testing.T) {
	d, j := begun(t, 500, "a")
	must(t, j.Append([]byte("b")), j.Append(nil))
	tells(t, j, 3, 1)
	k := opens(t, d, "a", "b", "")
	must(t, k.Append([]byte("lost")))
	tells(t, k, 4, 3)
	opens(t, falls(d), "a", "b", "")
}

// P6.2, R2: journals of two disks have nothing to do with one another.
func TestTwoDisks(t *testing.T) {
	c, j := begun(t, 500, "a")
	d, k := begun(t, 500)
	must(t, j.Append([]byte("b")), k.Append([]byte("1")), k.Append([]byte("2")), k.Sync())
	tells(t, j, 2, 1)
	tells(t, k, 2, 2)
	c.Crash(nil)
	answers(t, j.Append(nil), api.ErrDead)
	isBroken(t, j)
	must(t, k.Append([]byte("3")))
	tells(t, k, 3, 2)
	c.Boot()
	opens(t, c, "a")
	opens(t, d, "1", "2", "3")
}
