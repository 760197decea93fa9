package journal_test

import (
	"bytes"
	"math"
	"slices"
	"testing"

	"incunable/api"
	"incunable/disk"
	"incunable/journal"
)

// byHand does on a disk of its own, work by work, what the chapter says that a journal does, and knows what a journal must tell then.
type byHand struct {
	d           *disk.Disk
	count, kept int
	broken      bool
}

func openByHand(d *disk.Disk) (*byHand, []string, api.Errno) {
	if d.Dead() {
		return nil, nil, api.ErrDead
	}
	if slices.Contains(d.Names(), "journal.new") {
		if e := d.Remove("journal.new"); e != api.OK {
			return nil, nil, e
		}
	}
	var l []string
	if !slices.Contains(d.Names(), "journal") {
		if e := d.Append("journal", nil); e != api.OK {
			return nil, nil, e
		}
	} else {
		b, _ := d.Read("journal")
		all, end, wrong := parsed(b)
		if wrong {
			return nil, nil, api.ErrCorrupt
		}
		l = all
		if end < len(b) {
			if e := d.Cut("journal", end); e != api.OK {
				return nil, nil, e
			}
		}
	}
	if e := d.Sync("journal"); e != api.OK {
		return nil, nil, e
	}
	if e := d.SyncNames(); e != api.OK {
		return nil, nil, e
	}
	return &byHand{d: d, count: len(l), kept: len(l)}, l, api.OK
}

// hears is what the disk answered; another error than ErrSpace breaks the journal.
func (h *byHand) hears(e api.Errno) api.Errno {
	if e != api.OK && e != api.ErrSpace {
		*h = byHand{d: h.d, broken: true}
	}
	return e
}

func (h *byHand) append(text string) api.Errno {
	if h.broken {
		return api.ErrDead
	}
	if len(text) > 262144 {
		return api.ErrLimit
	}
	e := h.hears(h.d.Append("journal", record(uint64(h.count+1), text)))
	if e == api.OK {
		h.count++
	}
	return e
}

func (h *byHand) sync() api.Errno {
	if h.broken {
		return api.ErrDead
	}
	e := h.hears(h.d.Sync("journal"))
	if e == api.OK {
		h.kept = h.count
	}
	return e
}

func (h *byHand) checkpoint(l []string) api.Errno {
	if h.broken {
		return api.ErrDead
	}
	if len(l) > 10000 {
		return api.ErrLimit
	}
	for _, text := range l {
		if len(text) > 262144 {
			return api.ErrLimit
		}
	}
	if e := h.hears(h.d.Append("journal.new", written(l...))); e != api.OK {
		return e
	}
	if e := h.hears(h.d.Sync("journal.new")); e != api.OK {
		return e
	}
	if e := h.hears(h.d.Rename("journal.new", "journal")); e != api.OK {
		return e
	}
	if e := h.hears(h.d.SyncNames()); e != api.OK {
		return e
	}
	h.count, h.kept = len(l), len(l)
	return api.OK
}

// both are a journal on one disk, and what is done by hand on another one, that is treated alike.
type both struct {
	t    *testing.T
	d    *disk.Disk
	j    *journal.Journal
	h    *byHand
	hand *disk.Disk
}

func newBoth(t *testing.T, room int) *both {
	t.Helper()
	x := &both{t: t, d: newDisk(t, room), hand: newDisk(t, room)}
	answers(t, x.opens(), api.OK)
	return x
}

// opens opens both; if they are refused they stay what they were.
func (x *both) opens() api.Errno {
	x.t.Helper()
	h, want, e := openByHand(x.hand)
	j, l, got := journal.Open(x.d)
	if got != e || !slices.Equal(texts(l), want) || (j == nil) != (h == nil) {
		x.t.Fatalf("Open: a journal %v, %q, error %d, want %q, error %d", j != nil, l, got, want, e)
	}
	if h != nil {
		x.j, x.h = j, h
	}
	return e
}

func (x *both) appends(text string) api.Errno {
	x.t.Helper()
	e := x.h.append(text)
	answers(x.t, x.j.Append([]byte(text)), e)
	return e
}

func (x *both) syncs() api.Errno {
	x.t.Helper()
	e := x.h.sync()
	answers(x.t, x.j.Sync(), e)
	return e
}

func (x *both) checkpoints(l ...string) api.Errno {
	x.t.Helper()
	e := x.h.checkpoint(l)
	answers(x.t, x.j.Checkpoint(lists(l...)), e)
	return e
}

// disks does something to both disks.
func (x *both) disks(do func(d *disk.Disk) api.Errno) {
	x.t.Helper()
	answers(x.t, do(x.d), do(x.hand))
}

// alike fails unless both disks look alike, and the journal tells what it must.
func (x *both) alike() {
	x.t.Helper()
	if x.d.Dead() != x.hand.Dead() || x.d.Left() != x.hand.Left() {
		x.t.Fatalf("dead: %v, want %v; left: %d, want %d", x.d.Dead(), x.hand.Dead(), x.d.Left(), x.hand.Left())
	}
	if !slices.Equal(x.d.Names(), x.hand.Names()) {
		x.t.Fatalf("names: %q, want %q", x.d.Names(), x.hand.Names())
	}
	for _, name := range x.hand.Names() {
		got, _ := x.d.Read(name)
		want, _ := x.hand.Read(name)
		if !bytes.Equal(got, want) {
			x.t.Fatalf("%q: %.200x, want %.200x", name, got, want)
		}
	}
	if x.j.Len() != x.h.count || x.j.Kept() != x.h.kept || x.j.Broken() != x.h.broken {
		x.t.Fatalf("Len %d, Kept %d, Broken %v, want %d, %d, %v", x.j.Len(), x.j.Kept(), x.j.Broken(), x.h.count, x.h.kept, x.h.broken)
	}
}

// keep is numbers to keep by, some of them far beyond what they tell apart.
func (m *mixer) keep() []int {
	l := make([]int, m.below(5))
	for i := range l {
		switch m.below(8) {
		case 0:
			l[i] = -m.below(50)
		case 1:
			l[i] = []int{math.MinInt, math.MaxInt, 1 << 40}[m.below(3)]
		default:
			l[i] = m.below(90)
		}
	}
	return l
}

// call does any call of a journal.
func (m *mixer) call(x *both) api.Errno {
	switch m.below(40) {
	case 0:
		return x.appends(long(262145))
	case 1:
		return x.checkpoints("a", long(262145), "b")
	case 2, 3, 4, 5, 6, 7, 8, 9:
		return x.syncs()
	case 10, 11, 12, 13:
		return x.opens()
	case 14, 15, 16, 17, 18:
		l := make([]string, m.below(5))
		for i := range l {
			l[i] = m.text(m.below(20))
		}
		return x.checkpoints(l...)
	}
	return x.appends(m.text(m.below(25)))
}

// meddle does to both disks what others may do, and the power.
func (m *mixer) meddle(x *both) {
	keep := m.keep()
	switch m.below(16) {
	case 0, 1:
		x.d.Crash(keep)
		x.hand.Crash(keep)
	case 2, 3, 4, 5, 6, 7:
		n := m.below(9) - 1
		x.d.Fail(n, keep)
		x.hand.Fail(n, keep)
	case 8, 9:
		x.d.Boot()
		x.hand.Boot()
	case 10:
		text := m.text(m.below(20))
		x.disks(func(d *disk.Disk) api.Errno { return d.Append("journal", []byte(text)) })
	case 11:
		text := m.text(m.below(20))
		x.disks(func(d *disk.Disk) api.Errno { return d.Append("journal.new", []byte(text)) })
	case 12:
		x.disks(func(d *disk.Disk) api.Errno { return d.Remove("journal") })
	case 13:
		at, bit := m.below(100), m.below(8)
		x.disks(func(d *disk.Disk) api.Errno { return d.Turn("journal", at, bit) })
	case 14:
		text := m.text(m.below(40))
		x.disks(func(d *disk.Disk) api.Errno { return d.Append("other", []byte(text)) })
	case 15:
		x.disks(func(d *disk.Disk) api.Errno { return d.Remove("other") })
	}
}

// clean lays both disks anew, if nothing but what is wrong is left of the journal.
func (x *both) clean() {
	x.t.Helper()
	x.d.Boot()
	x.hand.Boot()
	if e := x.opens(); e == api.ErrCorrupt {
		x.disks(func(d *disk.Disk) api.Errno { return d.Remove("journal") })
	}
}

// P6.2 to P6.4, in long rows: whatever is called, wherever the power goes and whatever others do to the disk, works are done and told as by hand.
func TestLongRows(t *testing.T) {
	seen := map[api.Errno]int{}
	for row := range 400 {
		m := mixer(1000 + row)
		x := newBoth(t, []int{0, 45, 100, 200, 400, 5000}[row%6])
		for range 200 {
			if m.below(6) == 0 {
				m.meddle(x)
				x.alike()
			}
			if x.h.broken && m.below(3) == 0 {
				x.clean()
			}
			seen[m.call(x)]++
			x.alike()
		}
	}
	for _, e := range []api.Errno{api.OK, api.ErrLimit, api.ErrName, api.ErrDead, api.ErrSpace, api.ErrCorrupt} {
		if seen[e] < 100 {
			t.Errorf("error %d came %d times", e, seen[e])
		}
	}
}

// P6.2, P6.3: the works of each call, one by one: as many are done as by hand, and the power, when it goes at one of them, leaves the same.
func TestEachWorkByHand(t *testing.T) {
	calls := map[string]func(x *both) api.Errno{
		"Append":                    func(x *both) api.Errno { return x.appends("new") },
		"Append of nothing":         func(x *both) api.Errno { return x.appends("") },
		"Sync":                      func(x *both) api.Errno { return x.syncs() },
		"Checkpoint":                func(x *both) api.Errno { return x.checkpoints("one", "", "two") },
		"Checkpoint of nothing":     func(x *both) api.Errno { return x.checkpoints() },
		"Open":                      func(x *both) api.Errno { return x.opens() },
		"Append of too much":        func(x *both) api.Errno { return x.appends(long(262145)) },
		"Append without room":       func(x *both) api.Errno { return x.appends(long(1000)) },
		"Checkpoint of too much":    func(x *both) api.Errno { return x.checkpoints(long(262145)) },
		"Checkpoint without room":   func(x *both) api.Errno { return x.checkpoints("a", long(1000)) },
		"Checkpoint of too many":    func(x *both) api.Errno { return x.checkpoints(make([]string, 10001)...) },
		"Checkpoint at a new file":  func(x *both) api.Errno { x.lays("journal.new", written("x")); return x.checkpoints("one") },
		"Open with a new file":      func(x *both) api.Errno { x.lays("journal.new", written("x")); return x.opens() },
		"Open of none":              func(x *both) api.Errno { x.loses("journal"); return x.opens() },
		"Open of none but new ones": func(x *both) api.Errno { x.lays("journal.new", nil); x.loses("journal"); return x.opens() },
		"Open with a torn head":     func(x *both) api.Errno { x.lays("journal", record(4, "xyz")[:7]); return x.opens() },
		"Open with a torn record":   func(x *both) api.Errno { x.lays("journal", record(4, "xyz")[:20]); return x.opens() },
		"Open with a wrong one":     func(x *both) api.Errno { x.lays("journal", record(5, "xyz")); return x.opens() },
		"Open with both wrong": func(x *both) api.Errno {
			x.lays("journal", record(5, ""))
			x.lays("journal.new", nil)
			return x.opens()
		},
	}
	for what, call := range calls {
		t.Run(what, func(t *testing.T) {
			for n := range 8 {
				for first := range 7 {
					for _, second := range []int{0, 1, 7, 16, 20, 22, 23, 24, -1} {
						x := newBoth(t, 300)
						for _, e := range []api.Errno{x.appends("first"), x.syncs(), x.appends("second"), x.appends("third")} {
							answers(t, e, api.OK)
						}
						keep := []int{first, second, second / 2}
						x.d.Fail(n, keep)
						x.hand.Fail(n, keep)
						call(x)
						x.alike()
						x.d.Crash(keep)
						x.hand.Crash(keep)
						x.d.Boot()
						x.hand.Boot()
						x.alike()
						x.opens()
						x.alike()
					}
				}
			}
		})
	}
}

// lays appends to a file of both disks.
func (x *both) lays(name string, b []byte) {
	x.t.Helper()
	x.disks(func(d *disk.Disk) api.Errno { return d.Append(name, b) })
}

// loses removes a file of both disks.
func (x *both) loses(name string) {
	x.t.Helper()
	x.disks(func(d *disk.Disk) api.Errno { return d.Remove(name) })
}
