package journal_test

import (
	"runtime"
	"testing"

	"incunable/api"
	"incunable/journal"
)

// P6.3, P6.4: records are written one behind the other, of no bytes, too; they are there, but not kept.
func TestAppend(t *testing.T) {
	d, j := begun(t, 1000)
	var l []string
	for i, text := range []string{"a", "", "bc", "\x00", long(300), "", "last"} {
		must(t, j.Append([]byte(text)))
		l = append(l, text)
		tells(t, j, i+1, 0)
		hasFiles(t, d, "journal", string(written(l...)))
	}
	must(t, j.Append(nil))
	l = append(l, "")
	hasFiles(t, d, "journal", string(written(l...)))
	tells(t, j, 8, 0)
	opens(t, falls(d))
}

// P6.3: MaxPack bytes, and one more; with an error nothing has changed.
func TestAppendOfTheMost(t *testing.T) {
	d, j := begun(t, 1<<24, "a")
	for _, n := range []int{api.MaxPack + 1, api.MaxPack + 2, 1 << 20} {
		answers(t, j.Append([]byte(long(n))), api.ErrLimit)
		tells(t, j, 1, 1)
		hasFiles(t, d, "journal", string(written("a")))
	}
	must(t, j.Append([]byte(long(api.MaxPack))), j.Append([]byte("b")))
	tells(t, j, 3, 1)
	opens(t, d, "a", long(api.MaxPack), "b")
}

// P6.3: a record that just fits, and one of a byte more; ErrLimit comes first.
func TestAppendWithoutRoom(t *testing.T) {
	for room := 41; room < 90; room++ {
		d, j := begun(t, room, "a")
		for _, n := range []int{room - 40, room, 1000, api.MaxPack} {
			answers(t, j.Append([]byte(long(n))), api.ErrSpace)
			tells(t, j, 1, 1)
			isKept(t, d, "journal", string(written("a")))
		}
		answers(t, j.Append(make([]byte, api.MaxPack+1)), api.ErrLimit)
		must(t, j.Append([]byte(long(room-41))))
		tells(t, j, 2, 1)
		answers(t, j.Append(nil), api.ErrSpace)
		must(t, j.Sync())
		tells(t, j, 2, 2)
		answers(t, j.Append(nil), api.ErrSpace)
		opens(t, falls(d), "a", long(room-41))
	}
}

// P6.3: what was refused has no number: the next record has it.
func TestNumbersGoOn(t *testing.T) {
	d, j := begun(t, 100, "a")
	answers(t, j.Append([]byte(long(80))), api.ErrSpace)
	answers(t, j.Append(make([]byte, api.MaxPack+1)), api.ErrLimit)
	must(t, j.Append([]byte("b")))
	answers(t, j.Checkpoint(lists(long(200))), api.ErrSpace)
	must(t, j.Append([]byte("c")))
	hasFiles(t, d, "journal", string(written("a", "b", "c")))
	k := opens(t, d, "a", "b", "c")
	must(t, k.Append(nil))
	hasFiles(t, d, "journal", string(written("a", "b", "c", "")))
}

// P6.3, P6.4: what was written ahead of Sync is kept, what comes behind it is not.
func TestSync(t *testing.T) {
	d, j := begun(t, 1000)
	must(t, j.Sync(), j.Sync())
	tells(t, j, 0, 0)
	must(t, j.Append([]byte("a")), j.Append([]byte("b")))
	tells(t, j, 2, 0)
	must(t, j.Sync())
	tells(t, j, 2, 2)
	must(t, j.Append([]byte("c")))
	tells(t, j, 3, 2)
	must(t, j.Append([]byte("d")), j.Sync(), j.Sync())
	tells(t, j, 4, 4)
	must(t, j.Append([]byte("e")))
	opens(t, falls(d), "a", "b", "c", "d")
}

// P6.3: Sync is of "journal" alone: neither names nor other files.
func TestSyncIsOfTheJournalAlone(t *testing.T) {
	d, j := begun(t, 1000, "a")
	must(t, d.Append("other", []byte("xy")), d.SyncNames(), d.Append("third", nil), j.Append([]byte("b")), j.Sync())
	hasFiles(t, falls(d), "journal", string(written("a", "b")), "other", "")
}

// P6.3, P6.4: a checkpoint's records are those there are, all kept; those that were there are gone.
func TestCheckpoint(t *testing.T) {
	for _, before := range [][]string{nil, {"a"}, {"a", "", "b"}} {
		for _, l := range [][]string{nil, {""}, {"a"}, {"", "", long(200)}, {"one", "two", "three", "four"}} {
			d, j := begun(t, 1000, before...)
			must(t, j.Append([]byte("not kept")), j.Checkpoint(lists(l...)))
			tells(t, j, len(l), len(l))
			isKept(t, d, "journal", string(written(l...)))
			j = opens(t, d, l...)
			must(t, j.Checkpoint(lists(l...)), j.Append([]byte("behind")))
			tells(t, j, len(l)+1, len(l))
			must(t, j.Sync())
			opens(t, falls(d), append(l[:len(l):len(l)], "behind")...)
		}
	}
}

// P6.3: each checkpoint numbers from 1 on, and what is appended goes on from there.
func TestCheckpointsOneBehindTheOther(t *testing.T) {
	d, j := begun(t, 1000, "a", "b", "c", "d")
	for range 3 {
		must(t, j.Checkpoint(lists("1", "2")), j.Append([]byte("3")), j.Checkpoint(lists("4")), j.Append(nil), j.Append([]byte("6")))
		tells(t, j, 3, 1)
		hasFiles(t, d, "journal", string(written("4", "", "6")))
		must(t, j.Checkpoint(nil), j.Append([]byte("7")))
		tells(t, j, 1, 0)
		hasFiles(t, d, "journal", string(written("7")))
	}
	opens(t, falls(d))
}

// P6.3: 10000 records, and one more; how many there are is looked at ahead of what they are.
func TestCheckpointOfTheMost(t *testing.T) {
	d, j := begun(t, 1<<24, "a")
	many := make([][]byte, 10001)
	answers(t, j.Checkpoint(many), api.ErrLimit)
	answers(t, j.Checkpoint(make([][]byte, 20000)), api.ErrLimit)
	tells(t, j, 1, 1)
	isKept(t, d, "journal", string(written("a")))
	j = opens(t, d, "a")
	must(t, j.Checkpoint(many[:10000]))
	tells(t, j, 10000, 10000)
	isKept(t, d, "journal", string(written(make([]string, 10000)...)))
	j = opens(t, d, make([]string, 10000)...)
	must(t, j.Append([]byte("b")))
	tells(t, j, 10001, 10000)
	must(t, j.Checkpoint(nil))
	tells(t, j, 0, 0)
}

// P6.3: a record that is too large, first, last or between, ahead of room that is lacking.
func TestCheckpointOfALargeRecord(t *testing.T) {
	most, more := long(api.MaxPack), long(api.MaxPack+1)
	for _, room := range []int{60, 1 << 24} {
		d, j := begun(t, room, "a")
		for _, l := range [][]string{{more}, {more, "b"}, {"b", more}, {"", "b", more, "c"}, {most, most, most, more}} {
			answers(t, j.Checkpoint(lists(l...)), api.ErrLimit)
			tells(t, j, 1, 1)
			hasFiles(t, d, "journal", string(written("a")))
		}
		many := make([][]byte, 10000)
		many[9999] = []byte(more)
		answers(t, j.Checkpoint(many), api.ErrLimit)
	}
	d, j := begun(t, 1<<24, "a")
	must(t, j.Checkpoint(lists(most, "", most)))
	tells(t, j, 3, 3)
	opens(t, falls(d), most, "", most)
}

// P6.3: records that just fit beside those that are there, and a byte more; with ErrSpace nothing has changed.
func TestCheckpointWithoutRoom(t *testing.T) {
	for _, c := range []struct {
		room int
		l    []string
	}{
		{40, []string{""}}, {41, []string{"", ""}}, {61, []string{"", "b"}}, {61, []string{long(21)}}, {61, []string{long(22), "", ""}}, {100, []string{long(20), long(20)}}, {1000, []string{"a", long(1000)}}, {262144 + 20 + 20, []string{long(262144)}},
	} {
		d, j := begun(t, c.room, "a")
		for range 2 {
			answers(t, j.Checkpoint(lists(c.l...)), api.ErrSpace)
			tells(t, j, 1, 1)
			isKept(t, d, "journal", string(written("a")))
			j = opens(t, d, "a")
		}
		d, j = begun(t, 21+len(written(c.l...)), "a")
		must(t, j.Checkpoint(lists(c.l...)))
		tells(t, j, len(c.l), len(c.l))
		opens(t, falls(d), c.l...)
	}
	d, j := begun(t, 0)
	must(t, j.Checkpoint(nil))
	answers(t, j.Checkpoint(lists("")), api.ErrSpace)
	must(t, j.Checkpoint(nil))
	tells(t, j, 0, 0)
	opens(t, falls(d))
}

// P6.3: many long records that are one and the same text, of which the disk has no room: they do not fill the memory instead.
func TestCheckpointOfMuch(t *testing.T) {
	d, j := begun(t, 1<<24, "a")
	l := make([][]byte, 8000)
	most := []byte(long(api.MaxPack))
	for i := range l {
		l[i] = most
	}
	var before, after runtime.MemStats
	runtime.ReadMemStats(&before)
	answers(t, j.Checkpoint(l), api.ErrSpace)
	runtime.ReadMemStats(&after)
	if n := after.TotalAlloc - before.TotalAlloc; n > 1<<28 {
		t.Errorf("%d bytes of memory", n)
	}
	tells(t, j, 1, 1)
	hasFiles(t, d, "journal", string(written("a")))
	must(t, j.Checkpoint(l[:63]))
	tells(t, j, 63, 63)
	answers(t, j.Checkpoint(l[:1]), api.ErrSpace)
	d.Crash(nil)
	answers(t, j.Checkpoint(l), api.ErrDead)
	isBroken(t, j)
}

// P6.3, P6.4: the power goes at each work of each call: one of Append, one of Sync, four of Checkpoint.
func TestWorksOfCalls(t *testing.T) {
	for _, c := range []struct {
		works int
		call  func(j *journal.Journal) api.Errno
	}{
		{1, func(j *journal.Journal) api.Errno { return j.Append([]byte("b")) }},
		{1, func(j *journal.Journal) api.Errno { return j.Append(nil) }},
		{1, func(j *journal.Journal) api.Errno { return j.Sync() }},
		{4, func(j *journal.Journal) api.Errno { return j.Checkpoint(nil) }},
		{4, func(j *journal.Journal) api.Errno { return j.Checkpoint(lists("b", "", "c")) }},
		{0, func(j *journal.Journal) api.Errno { return refused(j.Append(make([]byte, api.MaxPack+1))) }},
		{0, func(j *journal.Journal) api.Errno { return refused(j.Append(make([]byte, 1000))) }},
		{0, func(j *journal.Journal) api.Errno { return refused(j.Checkpoint(make([][]byte, 10001))) }},
		{0, func(j *journal.Journal) api.Errno { return refused(j.Checkpoint(lists("", long(1000)))) }},
		{0, func(j *journal.Journal) api.Errno { j.Len(); j.Kept(); j.Broken(); return api.OK }},
	} {
		for n := range 7 {
			d, j := begun(t, 200, "a")
			d.Fail(n, nil)
			if n < c.works {
				answers(t, c.call(j), api.ErrDead)
				isBroken(t, j)
				d.Boot()
				isBroken(t, j)
				continue
			}
			answers(t, c.call(j), api.OK)
			for range n - c.works {
				must(t, d.SyncNames())
			}
			answers(t, d.SyncNames(), api.ErrDead)
		}
	}
}

// refused turns an error that is no sign of a dead disk into none.
func refused(e api.Errno) api.Errno {
	switch e {
	case api.ErrLimit, api.ErrSpace:
		return api.OK
	case api.OK:
		return api.ErrArg
	}
	return e
}

// P6.4: a fall that the journal was not told of breaks it at its next call of the disk, not ahead of that: what it refuses itself is no such call.
func TestBrokenByAFall(t *testing.T) {
	for what, call := range map[string]func(j *journal.Journal) api.Errno{
		"Append":                func(j *journal.Journal) api.Errno { return j.Append([]byte("x")) },
		"Append of nothing":     func(j *journal.Journal) api.Errno { return j.Append(nil) },
		"Append of the most":    func(j *journal.Journal) api.Errno { return j.Append(make([]byte, api.MaxPack)) },
		"Sync":                  (*journal.Journal).Sync,
		"Checkpoint":            func(j *journal.Journal) api.Errno { return j.Checkpoint(lists("x")) },
		"Checkpoint of nothing": func(j *journal.Journal) api.Errno { return j.Checkpoint(nil) },
	} {
		d, j := begun(t, 100, "a")
		must(t, j.Append([]byte("b")))
		d.Crash([]int{0, 21})
		answers(t, j.Append(make([]byte, api.MaxPack+1)), api.ErrLimit)
		answers(t, j.Checkpoint(lists("", long(api.MaxPack+1))), api.ErrLimit)
		answers(t, j.Checkpoint(make([][]byte, 10001)), api.ErrLimit)
		tells(t, j, 2, 1)
		if e := call(j); e != api.ErrDead {
			t.Errorf("%s: error %d", what, e)
		}
		isBroken(t, j)
		d.Boot()
		isBroken(t, j)
		hasFiles(t, d, "journal", string(written("a", "b")))
		k := opens(t, d, "a", "b")
		must(t, k.Append([]byte("c")))
		isBroken(t, j)
		tells(t, k, 3, 2)
	}
}

// P6.4: another error than ErrDead breaks it, too: somebody took the file away. That error is answered first.
func TestBrokenByAnotherError(t *testing.T) {
	d, j := begun(t, 100, "a")
	must(t, d.Remove("journal"))
	tells(t, j, 1, 1)
	answers(t, j.Sync(), api.ErrName)
	isBroken(t, j)
	hasFiles(t, d)
	opens(t, d)
	isBroken(t, j)
}

// P6.4: ErrSpace does not break it, however often it comes.
func TestErrSpaceBreaksNothing(t *testing.T) {
	d, j := begun(t, 45, "a")
	for range 5 {
		answers(t, j.Append([]byte("long one")), api.ErrSpace)
		answers(t, j.Checkpoint(lists("long one")), api.ErrSpace)
		tells(t, j, 1, 1)
		must(t, j.Sync())
	}
	must(t, j.Append([]byte("0123")))
	tells(t, j, 2, 1)
	opens(t, d, "a", "0123")
}

// P6.4: every call of a journal that is none, again and again: it stays none.
func TestCallsOfNone(t *testing.T) {
	for _, j := range []*journal.Journal{nil, {}, new(journal.Journal)} {
		for range 3 {
			if j.Len() != 0 || j.Kept() != 0 || j.Broken() {
				t.Errorf("Len %d, Kept %d, Broken %v", j.Len(), j.Kept(), j.Broken())
			}
			allAnswer(t, j, api.ErrNil)
		}
	}
}
