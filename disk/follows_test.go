package disk_test

import (
	"bytes"
	"math"
	"os"
	"path/filepath"
	"slices"
	"strings"
	"testing"

	"incunable/api"
	"incunable/disk"
)

// name is one of few, so that names meet; now and then one that is none.
func (m *mixer) name() string {
	if m.below(40) == 0 {
		return []string{"", tooLong, strings.Repeat("n", 40)}[m.below(3)]
	}
	return string(rune('a' + m.below(6)))
}

// keep is numbers to keep by, some of them far beyond what they tell apart.
func (m *mixer) keep() []int {
	l := make([]int, m.below(6))
	for i := range l {
		switch m.below(8) {
		case 0:
			l[i] = -m.below(50)
		case 1:
			l[i] = []int{math.MinInt, math.MaxInt, 1 << 40}[m.below(3)]
		default:
			l[i] = m.below(20)
		}
	}
	return l
}

// work is any one, appends more often than others.
func (m *mixer) work() work {
	switch m.below(16) {
	case 0, 1:
		return syncs(m.name())
	case 2:
		return cuts(m.name(), m.below(14)-2)
	case 3, 4, 5:
		return renames(m.name(), m.name())
	case 6, 7:
		return removes(m.name())
	case 8:
		return syncsNames()
	}
	return appends(m.name(), m.bytes(m.below(10)))
}

// P5.1 to P5.6, in long rows: whatever is done, and wherever the power goes, the disk is as the chapter's words have it, and answers so.
func TestLongRows(t *testing.T) {
	seen := map[api.Errno]int{}
	for row := range 300 {
		m := mixer(1000 + row)
		x := newBoth(t, []int{0, 5, 20, 40, 60, 1000}[row%6])
		for range 300 {
			switch m.below(40) {
			case 0:
				keep := m.keep()
				x.d.Crash(keep)
				x.m.crash(keep)
			case 1:
				n, keep := m.below(12)-2, m.keep()
				x.d.Fail(n, keep)
				x.m.fail(n, keep)
			case 2:
				name, at, bit := m.name(), m.below(12)-1, m.below(10)-1
				answers(t, x.d.Turn(name, at, bit), x.m.turn(name, at, bit))
			case 3:
				x.boots()
			}
			if x.m.dead && m.below(3) == 0 {
				x.boots()
			}
			w := m.work()
			want := x.m.do(w)
			answers(t, w.of(x.d), want)
			seen[want]++
			x.m.looksAs(t, x.d)
		}
	}
	for _, e := range []api.Errno{api.OK, api.ErrName, api.ErrRange, api.ErrSpace, api.ErrDead} {
		if seen[e] < 100 {
			t.Errorf("error %d came %d times", e, seen[e])
		}
	}
}

// safe is what must be there behind a fall: of names that are kept, and of whose files no work on names was done since, what was synced.
type safe struct {
	synced map[string][]byte
	kept   map[string]int
}

// notes is what a work that was done makes of it. (Files are asked for as they are behind the work.)
func (s *safe) notes(d *disk.Disk, kind int, name, to string) {
	switch kind {
	case 0:
		if _, is := s.synced[name]; !is {
			s.synced[name] = nil
		}
	case 1:
		s.synced[name], _ = d.Read(name)
	case 2:
		size, _ := d.Size(name)
		s.synced[name] = s.synced[name][:min(size, len(s.synced[name]))]
	case 3:
		if name != to {
			s.synced[to] = s.synced[name]
			delete(s.synced, name)
			delete(s.kept, name)
			delete(s.kept, to)
		}
	case 4:
		delete(s.synced, name)
		delete(s.kept, name)
	case 5:
		for name := range s.synced {
			s.kept[name] = 1
		}
	}
}

// anyWork does one of six kinds of work, and tells which.
func (m *mixer) anyWork(d *disk.Disk) (kind int, name, to string, e api.Errno) {
	kind, name, to = m.below(6), m.name(), m.name()
	switch kind {
	case 0:
		e = d.Append(name, m.bytes(m.below(10)))
	case 1:
		e = d.Sync(name)
	case 2:
		e = d.Cut(name, m.below(9))
	case 3:
		e = d.Rename(name, to)
	case 4:
		e = d.Remove(name)
	case 5:
		e = d.SyncNames()
	}
	return kind, name, to, e
}

// fall lets the power go in one of the two ways, and brings it back.
func (m *mixer) fall(t *testing.T, d *disk.Disk) {
	t.Helper()
	if m.below(2) == 0 {
		d.Crash(m.keep())
	} else {
		d.Fail(0, m.keep())
		answers(t, d.SyncNames(), api.ErrDead)
	}
	d.Boot()
}

// P5.7: what was synced, under a name that was kept, is there behind a fall, with perhaps more behind it that had been there; no more is, if nothing was.
func TestWhatWasSyncedIsThere(t *testing.T) {
	looked := 0
	for row := range 3000 {
		m := mixer(row)
		d := newDisk(t, 200)
		s := safe{map[string][]byte{}, map[string]int{}}
		for range m.below(60) {
			if kind, name, to, e := m.anyWork(d); e == api.OK {
				s.notes(d, kind, name, to)
			}
		}
		had := map[string][]byte{}
		for name := range s.kept {
			had[name], _ = d.Read(name)
		}
		m.fall(t, d)
		for name := range s.kept {
			b, e := d.Read(name)
			if e != api.OK || !bytes.HasPrefix(b, s.synced[name]) || !bytes.HasPrefix(had[name], b) {
				t.Fatalf("row %d, %q: %q, error %d; synced was %q of %q", row, name, b, e, s.synced[name], had[name])
			}
			looked += min(len(s.synced[name]), 1)
		}
	}
	if looked < 500 {
		t.Errorf("only %d files were looked at", looked)
	}
}

// P5.7: in either order: the file first, or the names.
func TestSyncedInEitherOrder(t *testing.T) {
	for _, l := range [][]work{
		{appends("a", []byte("xy")), syncs("a"), syncsNames()},
		{appends("a", []byte("xy")), syncsNames(), syncs("a")},
		{appends("b", []byte("xy")), syncs("b"), renames("b", "a"), syncsNames()},
		{appends("b", []byte("xy")), renames("b", "a"), syncsNames(), syncs("a")},
	} {
		for first := range 4 {
			for second := range 4 {
				x := newBoth(t, 100).does(l...)
				x.does(appends("b", []byte("12")), renames("b", "c"), removes("c"))
				x.falls(first, second, second)
				readIs(t, x.d, "a", "xy")
			}
		}
	}
}

// P5.8: behind a fall, and Boot, all stays behind another one at once, whatever is kept, be it told or by Fail; and behind a third one.
func TestASecondFallChangesNothing(t *testing.T) {
	for row := range 1000 {
		m := mixer(5000 + row)
		d := newDisk(t, 60)
		for range m.below(60) {
			m.anyWork(d)
		}
		d.Crash(m.keep())
		d.Boot()
		names, left := d.Names(), d.Left()
		var had []string
		for _, name := range names {
			b, _ := d.Read(name)
			had = append(had, string(b))
		}
		for range 3 {
			m.fall(t, d)
			namesAre(t, d, names...)
			leftIs(t, d, left)
			for i, name := range names {
				readIs(t, d, name, had[i])
			}
		}
	}
}

// plain is files as they are everywhere: what is written is there.
type plain map[string]string

// does does one work to both, and fails unless they answer alike.
func (p plain) does(t *testing.T, m *mixer, d *disk.Disk) {
	t.Helper()
	name, to := m.name(), m.name()
	text, is := p[name]
	want := api.OK
	if !is {
		want = api.ErrName
	}
	switch m.below(8) {
	case 0:
		answers(t, d.Sync(name), want)
	case 1:
		size := m.below(40) - 2
		if is && (size < 0 || size > len(text)) {
			want = api.ErrRange
		}
		answers(t, d.Cut(name, size), want)
		if want == api.OK {
			p[name] = text[:size]
		}
	case 2:
		if !named(to) {
			want = api.ErrName
		}
		answers(t, d.Rename(name, to), want)
		if want == api.OK {
			delete(p, name)
			p[to] = text
		}
	case 3:
		answers(t, d.Remove(name), want)
		delete(p, name)
	case 4:
		answers(t, d.SyncNames(), api.OK)
	default:
		if want = api.OK; !named(name) {
			want = api.ErrName
		}
		b := m.bytes(m.below(20))
		answers(t, d.Append(name, b), want)
		if want == api.OK {
			p[name] = text + string(b)
		}
	}
}

// P5.9: as long as the power stays, in a long row of works, a disk does what plain files do.
func TestPlainFiles(t *testing.T) {
	m := mixer(9)
	d, p := newDisk(t, 1<<24), plain{}
	for range 40000 {
		p.does(t, &m, d)
		want := make([]string, 0, len(p))
		for name := range p {
			want = append(want, name)
		}
		slices.Sort(want)
		namesAre(t, d, want...)
		for _, name := range want {
			readIs(t, d, name, p[name])
		}
	}
}

// P5.9: the same, beside a machine's own files.
func TestFilesOfTheMachine(t *testing.T) {
	m := mixer(10)
	d, dir := newDisk(t, 1<<24), t.TempDir()
	for range 1500 {
		name, to := string(rune('a'+m.below(6))), string(rune('a'+m.below(6)))
		path := filepath.Join(dir, name)
		var err error
		var e api.Errno
		switch m.below(6) {
		case 0:
			size := m.below(20)
			if had, none := d.Size(name); none == api.OK && size > had {
				continue // A machine's file would grow.
			}
			e, err = d.Cut(name, size), os.Truncate(path, int64(size))
		case 1:
			e, err = d.Rename(name, to), os.Rename(path, filepath.Join(dir, to))
		case 2:
			e, err = d.Remove(name), os.Remove(path)
		default:
			b := m.bytes(m.below(20))
			e, err = d.Append(name, b), grow(path, b)
		}
		if (e == api.OK) != (err == nil) {
			t.Fatalf("error %d, a machine's file: %v", e, err)
		}
		looksAsFolder(t, d, dir)
	}
}

// grow writes at the end of a machine's file.
func grow(path string, b []byte) error {
	f, err := os.OpenFile(path, os.O_APPEND|os.O_CREATE|os.O_WRONLY, 0o600)
	if err != nil {
		return err
	}
	if _, err := f.Write(b); err != nil {
		return err
	}
	return f.Close()
}

// looksAsFolder fails unless a machine's folder has the same files.
func looksAsFolder(t *testing.T, d *disk.Disk, dir string) {
	t.Helper()
	l, err := os.ReadDir(dir)
	if err != nil {
		t.Fatal(err)
	}
	var want []string
	for _, f := range l {
		want = append(want, f.Name())
		b, err := os.ReadFile(filepath.Join(dir, f.Name()))
		if err != nil {
			t.Fatal(err)
		}
		readIs(t, d, f.Name(), string(b))
	}
	namesAre(t, d, want...)
}

// R1: rows of many births, works and falls end soon.
func TestManyFiles(t *testing.T) {
	const many = 30000
	d := newDisk(t, 1<<24)
	for i := range many {
		name := string([]byte{byte(i >> 16), byte(i >> 8), byte(i)})
		answers(t, d.Append(name, []byte{byte(i)}), api.OK)
		answers(t, d.SyncNames(), api.OK)
		if i%2 == 1 {
			answers(t, d.Rename(name, "to "+name), api.OK)
		}
	}
	d.Crash([]int{1})
	d.Boot()
	if n := len(d.Names()); n != many {
		t.Errorf("%d names", n)
	}
	leftIs(t, d, 1<<24)
}
