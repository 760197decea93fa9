package disk_test

import (
	"bytes"
	"slices"
	"testing"

	"incunable/api"
	"incunable/disk"
)

// mixer makes numbers that look like chance and are always the same.
type mixer uint64

func (m *mixer) next() uint32 {
	*m = *m*6364136223846793005 + 1442695040888963407
	return uint32(*m >> 32)
}

func (m *mixer) below(n int) int {
	return int(m.next() % uint32(n))
}

func (m *mixer) bytes(n int) []byte {
	b := make([]byte, n)
	for i := range b {
		b[i] = byte(m.next())
	}
	return b
}

// aFile is a file of a model: it is known by its place among all that were ever born.
type aFile struct {
	data []byte
	mark int
}

// model is a disk by the chapter's words alone, in another way: it has all names as they were behind each work on names. The first of these are the kept ones, the last those of now.
type model struct {
	room  int
	dead  bool
	files []*aFile
	names []map[string]int
	fails bool
	more  int
	keep  []int
}

func newModel(room int) *model {
	return &model{room: room, names: []map[string]int{{}}}
}

func (m *model) now() map[string]int { return m.names[len(m.names)-1] }

func (m *model) file(name string) *aFile {
	if at, is := m.now()[name]; is {
		return m.files[at]
	}
	return nil
}

// changed is another list of names, as the last one is but for one thing.
func (m *model) changed(change func(names map[string]int)) {
	names := map[string]int{}
	for name, at := range m.now() {
		names[name] = at
	}
	change(names)
	m.names = append(m.names, names)
}

func (m *model) used() int {
	n := 0
	for at, f := range m.files {
		has := false
		for _, names := range []map[string]int{m.names[0], m.now()} {
			for _, other := range names {
				has = has || other == at
			}
		}
		if has {
			n += len(f.data)
		}
	}
	return n
}

// told is the place-th of keep, brought to be from 0 to most.
func told(keep []int, place, most int) int {
	if place >= len(keep) {
		return 0
	}
	x := keep[place] % (most + 1)
	if x < 0 {
		x += most + 1
	}
	return x
}

func (m *model) crash(keep []int) {
	if m.dead {
		return
	}
	names := m.names[told(keep, 0, len(m.names)-1)]
	i := 0
	for at, f := range m.files {
		has := false
		for _, other := range names {
			has = has || other == at
		}
		if has {
			i++
			f.mark += told(keep, i, len(f.data)-f.mark)
			f.data = bytes.Clone(f.data[:f.mark])
		}
	}
	m.names, m.dead = []map[string]int{names}, true
}

// work is what is done to both: a call of the disk, why it is refused (OK, if it is a work), and what it does to the model.
type work struct {
	of      func(d *disk.Disk) api.Errno
	refused func(m *model) api.Errno
	done    func(m *model)
}

func named(name string) bool { return len(name) >= 1 && len(name) <= 40 }

func appends(name string, b []byte) work {
	return work{
		func(d *disk.Disk) api.Errno { return d.Append(name, b) },
		func(m *model) api.Errno {
			switch {
			case !named(name):
				return api.ErrName
			case m.used()+len(b) > m.room:
				return api.ErrSpace
			}
			return api.OK
		},
		func(m *model) {
			if m.file(name) == nil {
				m.files = append(m.files, &aFile{})
				m.changed(func(names map[string]int) { names[name] = len(m.files) - 1 })
			}
			f := m.file(name)
			f.data = append(bytes.Clone(f.data), b...)
		},
	}
}

// there is a refusal of what asks for a file of that name.
func there(name string) func(m *model) api.Errno {
	return func(m *model) api.Errno {
		if m.file(name) == nil {
			return api.ErrName
		}
		return api.OK
	}
}

func syncs(name string) work {
	return work{
		func(d *disk.Disk) api.Errno { return d.Sync(name) },
		there(name),
		func(m *model) { m.file(name).mark = len(m.file(name).data) },
	}
}

func cuts(name string, size int) work {
	return work{
		func(d *disk.Disk) api.Errno { return d.Cut(name, size) },
		func(m *model) api.Errno {
			f := m.file(name)
			switch {
			case f == nil:
				return api.ErrName
			case size < 0 || size > len(f.data):
				return api.ErrRange
			}
			return api.OK
		},
		func(m *model) {
			f := m.file(name)
			f.data = bytes.Clone(f.data[:size])
			if f.mark > size {
				f.mark = size
			}
		},
	}
}

func renames(from, to string) work {
	return work{
		func(d *disk.Disk) api.Errno { return d.Rename(from, to) },
		func(m *model) api.Errno {
			if m.file(from) == nil || !named(to) {
				return api.ErrName
			}
			return api.OK
		},
		func(m *model) {
			if from != to {
				m.changed(func(names map[string]int) {
					at := names[from]
					delete(names, from)
					names[to] = at
				})
			}
		},
	}
}

func removes(name string) work {
	return work{
		func(d *disk.Disk) api.Errno { return d.Remove(name) },
		there(name),
		func(m *model) { m.changed(func(names map[string]int) { delete(names, name) }) },
	}
}

func syncsNames() work {
	return work{
		(*disk.Disk).SyncNames,
		func(m *model) api.Errno { return api.OK },
		func(m *model) { m.names = []map[string]int{m.now()} },
	}
}

// do is what the model answers.
func (m *model) do(w work) api.Errno {
	if m.dead {
		return api.ErrDead
	}
	if e := w.refused(m); e != api.OK {
		return e
	}
	if m.fails && m.more == 0 {
		m.crash(m.keep)
		return api.ErrDead
	}
	m.more--
	w.done(m)
	return api.OK
}

func (m *model) fail(n int, keep []int) {
	if !m.dead {
		m.fails, m.more, m.keep = n >= 0, n, slices.Clone(keep)
	}
}

func (m *model) boot() {
	m.dead, m.fails = false, false
}

func (m *model) turn(name string, at, bit int) api.Errno {
	f := m.file(name)
	switch {
	case m.dead:
		return api.ErrDead
	case f == nil:
		return api.ErrName
	case at < 0 || at >= len(f.data) || bit < 0 || bit > 7:
		return api.ErrRange
	}
	f.data[at] ^= 1 << bit
	return api.OK
}

// looksAs fails unless all that can be asked of the disk is as the model has it.
func (m *model) looksAs(t *testing.T, d *disk.Disk) {
	t.Helper()
	if d.Dead() != m.dead {
		t.Fatalf("dead: %v, want %v", d.Dead(), m.dead)
	}
	left, want := 0, []string(nil)
	if !m.dead {
		left = m.room - m.used()
		for name := range m.now() {
			want = append(want, name)
		}
		slices.Sort(want)
	}
	if d.Left() != left {
		t.Fatalf("left: %d, want %d", d.Left(), left)
	}
	if got := d.Names(); !slices.Equal(got, want) {
		t.Fatalf("names: %q, want %q", got, want)
	}
	for _, name := range want {
		readIs(t, d, name, string(m.file(name).data))
	}
}

// readIs fails unless the file has just that.
func readIs(t *testing.T, d *disk.Disk, name, want string) {
	t.Helper()
	b, e := d.Read(name)
	size, f := d.Size(name)
	if string(b) != want || e != api.OK || size != len(want) || f != api.OK {
		t.Fatalf("%q: %q, error %d, size %d, error %d; want %q", name, b, e, size, f, want)
	}
}

// namesAre fails unless the disk has just these names, in this order.
func namesAre(t *testing.T, d *disk.Disk, want ...string) {
	t.Helper()
	if got := d.Names(); !slices.Equal(got, want) {
		t.Fatalf("names: %q, want %q", got, want)
	}
}

// leftIs fails unless just so much room is left.
func leftIs(t *testing.T, d *disk.Disk, want int) {
	t.Helper()
	if got := d.Left(); got != want {
		t.Fatalf("left: %d, want %d", got, want)
	}
}

// answers fails unless the error is the one that is wanted.
func answers(t *testing.T, got, want api.Errno) {
	t.Helper()
	if got != want {
		t.Fatalf("error %d, want %d", got, want)
	}
}

// newDisk is an empty disk.
func newDisk(t *testing.T, room int) *disk.Disk {
	t.Helper()
	d, e := disk.New(room)
	if d == nil || e != api.OK {
		t.Fatalf("New(%d): error %d", room, e)
	}
	return d
}

// both are a disk and its model, to which the same is done.
type both struct {
	t *testing.T
	d *disk.Disk
	m *model
}

func newBoth(t *testing.T, room int) both {
	t.Helper()
	return both{t, newDisk(t, room), newModel(room)}
}

// does does works to both, and fails unless they answer alike and look alike behind each.
func (x both) does(works ...work) both {
	x.t.Helper()
	for _, w := range works {
		want := x.m.do(w)
		if got := w.of(x.d); got != want {
			x.t.Fatalf("error %d, want %d", got, want)
		}
		x.m.looksAs(x.t, x.d)
	}
	return x
}

// falls lets both fall, and boots them.
func (x both) falls(keep ...int) both {
	x.t.Helper()
	x.d.Crash(keep)
	x.m.crash(keep)
	x.m.looksAs(x.t, x.d)
	return x.boots()
}

func (x both) boots() both {
	x.t.Helper()
	x.d.Boot()
	x.m.boot()
	x.m.looksAs(x.t, x.d)
	return x
}
