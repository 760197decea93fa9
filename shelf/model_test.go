package shelf_test

import (
	"cmp"
	"slices"
	"strconv"
	"testing"

	"incunable/api"
	"incunable/disk"
	"incunable/shelf"
)

// byHand does on a disk of its own, work by work, what the chapter says that a shelf does.
type byHand struct {
	d      *disk.Disk
	broken bool
}

func openByHand(d *disk.Disk) (*byHand, api.Errno) {
	if d.Dead() {
		return nil, api.ErrDead
	}
	if slices.Contains(d.Names(), "shelf.new") {
		if e := d.Remove("shelf.new"); e != api.OK {
			return nil, e
		}
		if e := d.SyncNames(); e != api.OK {
			return nil, e
		}
	}
	return &byHand{d: d}, api.OK
}

// dead is whether the shelf is broken, at a call.
func (h *byHand) dead() bool {
	h.broken = h.broken || h.d.Dead()
	return h.broken
}

// hears is what the disk answered; another error than ErrSpace breaks the shelf.
func (h *byHand) hears(e api.Errno) api.Errno {
	if e != api.OK && e != api.ErrSpace {
		h.broken = true
	}
	return e
}

// all are the names of the shelf's files, rising.
func (h *byHand) all() []string {
	return slices.DeleteFunc(h.d.Names(), func(name string) bool { return !ofShelf.MatchString(name) })
}

// of are the names of a key's files, by rising numbers.
func (h *byHand) of(key string) []string {
	begin := "s-" + digits(key) + "-"
	number := func(name string) int {
		n, _ := strconv.Atoi(name[len(begin):])
		return n
	}
	l := slices.DeleteFunc(h.all(), func(name string) bool { return name[:len(begin)] != begin })
	slices.SortFunc(l, func(a, b string) int { return cmp.Compare(number(a), number(b)) })
	return l
}

func (h *byHand) content(name string) (key, data string, is bool) {
	b, _ := h.d.Read(name)
	return readable(string(b))
}

func isKey(key string) bool {
	return key != "" && len(key) <= 65536
}

func (h *byHand) get(key string) (string, bool, api.Errno) {
	if h.dead() {
		return "", false, api.ErrDead
	}
	if !isKey(key) {
		return "", false, api.ErrArg
	}
	e := api.OK
	for _, name := range h.of(key) {
		k, data, is := h.content(name)
		if is && k == key {
			return data, true, api.OK
		}
		if !is {
			e = api.ErrCorrupt
		}
	}
	return "", false, e
}

func (h *byHand) put(key, data string) api.Errno {
	if h.dead() {
		return api.ErrDead
	}
	if !isKey(key) {
		return api.ErrArg
	}
	if len(data) > 180000 {
		return api.ErrLimit
	}
	if _, is, _ := h.get(key); is {
		return api.OK
	}
	n := 0
	for slices.Contains(h.of(key), nameOf(key, n)) {
		n++
	}
	if e := h.hears(h.d.Append("shelf.new", []byte(written(key, data)))); e != api.OK {
		return e
	}
	if e := h.hears(h.d.Sync("shelf.new")); e != api.OK {
		return e
	}
	if e := h.hears(h.d.Rename("shelf.new", nameOf(key, n))); e != api.OK {
		return e
	}
	return h.hears(h.d.SyncNames())
}

func (h *byHand) sweep(keep []string) api.Errno {
	if h.dead() {
		return api.ErrDead
	}
	var stay []string
	gone := false
	for _, name := range h.all() {
		key, _, is := h.content(name)
		if is && slices.Contains(keep, key) && !slices.Contains(stay, key) {
			stay = append(stay, key)
			continue
		}
		if e := h.hears(h.d.Remove(name)); e != api.OK {
			return e
		}
		gone = true
	}
	if !gone {
		return api.OK
	}
	return h.hears(h.d.SyncNames())
}

func (h *byHand) keys() []string {
	if h.dead() {
		return nil
	}
	var l []string
	for _, name := range h.all() {
		if key, _, is := h.content(name); is {
			l = append(l, key)
		}
	}
	slices.Sort(l)
	return slices.Compact(l)
}

func (h *byHand) bad() int {
	n := 0
	if h.dead() {
		return n
	}
	for _, name := range h.all() {
		if _, _, is := h.content(name); !is {
			n++
		}
	}
	return n
}

// both are a shelf on one disk, and what is done by hand on another one, that is treated alike.
type both struct {
	t    *testing.T
	d    *disk.Disk
	s    *shelf.Shelf
	h    *byHand
	hand *disk.Disk
}

func newBoth(t *testing.T, room int) *both {
	t.Helper()
	x := &both{t: t, d: newDisk(t, room), hand: newDisk(t, room)}
	answers(t, x.opens(), api.OK)
	return x
}

// opens opens both; if they are refused they stay what they were.
func (x *both) opens() api.Errno {
	x.t.Helper()
	h, e := openByHand(x.hand)
	s, got := shelf.Open(x.d)
	if got != e || (s == nil) != (h == nil) {
		x.t.Fatalf("Open: a shelf %v, error %d, want %d", s != nil, got, e)
	}
	if h != nil {
		x.s, x.h = s, h
	}
	return e
}

func (x *both) puts(key, data string) api.Errno {
	x.t.Helper()
	e := x.h.put(key, data)
	answers(x.t, x.s.Put([]byte(key), []byte(data)), e)
	return e
}

func (x *both) gets(key string) api.Errno {
	x.t.Helper()
	want, wantIs, e := x.h.get(key)
	got, is, f := x.s.Get([]byte(key))
	if string(got) != want || is != wantIs || f != e {
		x.t.Fatalf("Get(%.20q) = %.100q, %v, error %d, want %.100q, %v, error %d", key, got, is, f, want, wantIs, e)
	}
	return e
}

func (x *both) sweeps(keep ...string) api.Errno {
	x.t.Helper()
	e := x.h.sweep(keep)
	answers(x.t, x.s.Sweep(lists(keep...)), e)
	return e
}

func (x *both) lists() api.Errno {
	x.t.Helper()
	if got, want := texts(x.s.Keys()), x.h.keys(); !slices.Equal(got, want) {
		x.t.Fatalf("Keys: %.300q, want %.300q", got, want)
	}
	if got, want := x.s.Bad(), x.h.bad(); got != want {
		x.t.Fatalf("Bad: %d, want %d", got, want)
	}
	return api.OK
}

func (x *both) breaks() api.Errno {
	x.t.Helper()
	if got, want := x.s.Broken(), x.h.dead(); got != want {
		x.t.Fatalf("Broken: %v, want %v", got, want)
	}
	return api.OK
}

// disks does something to both disks.
func (x *both) disks(do func(d *disk.Disk) api.Errno) {
	x.t.Helper()
	answers(x.t, do(x.d), do(x.hand))
}

// alike fails unless both disks look alike. It calls nothing of the shelf: that could break it.
func (x *both) alike() {
	x.t.Helper()
	if x.d.Dead() != x.hand.Dead() || x.d.Left() != x.hand.Left() {
		x.t.Fatalf("dead: %v, want %v; left: %d, want %d", x.d.Dead(), x.hand.Dead(), x.d.Left(), x.hand.Left())
	}
	if got, want := files(x.d), files(x.hand); !slices.Equal(got, want) {
		x.t.Fatalf("files: %.500q, want %.500q", got, want)
	}
}

// key is one of few, mostly.
func (m *mixer) key() string {
	if m.below(25) == 0 {
		return []string{"", long(65536), long(65537)}[m.below(3)]
	}
	return []string{"a", "b", "c", "d", "e\x00", "\xff"}[m.below(6)]
}

// name is that of a file of the shelf, often of the same digits, or nearly one.
func (m *mixer) name() string {
	n := []int{0, 0, 1, 1, 2, 3, 10, 11, 99999}[m.below(9)]
	if m.below(10) == 0 {
		l := nobodys("a")
		return l[m.below(len(l))]
	}
	return nameOf([]string{"a", "b", "c"}[m.below(3)], n)
}

// content is what others may write.
func (m *mixer) content() string {
	whole := written(m.key(), m.text(m.below(10)))
	switch m.below(6) {
	case 0:
		return whole[:m.below(min(len(whole), 40))]
	case 1:
		return whole + "x"
	case 2:
		return packed(byte(m.below(9)), section(1, "a"), section(2, "x"), section(3, "")[:2*m.below(2)])
	}
	return whole
}

// call does any call of a shelf.
func (m *mixer) call(x *both) api.Errno {
	switch m.below(20) {
	case 0:
		return x.puts(m.key(), long(180001))
	case 1:
		return x.opens()
	case 2, 3, 4:
		keep := make([]string, m.below(7))
		for i := range keep {
			keep[i] = m.key()
		}
		return x.sweeps(keep...)
	case 5, 6:
		return x.lists()
	case 7, 8, 9, 10:
		return x.gets(m.key())
	case 11:
		return x.breaks()
	}
	return x.puts(m.key(), m.text(m.below(40)))
}

// meddle does to both disks what others may do, and the power.
func (m *mixer) meddle(x *both) {
	keep := m.keep()
	names := x.hand.Names()
	switch m.below(14) {
	case 0:
		x.d.Crash(keep)
		x.hand.Crash(keep)
	case 1, 2, 3:
		n := m.below(9) - 1
		x.d.Fail(n, keep)
		x.hand.Fail(n, keep)
	case 4, 5:
		x.d.Boot()
		x.hand.Boot()
	case 6:
		text := m.content()
		x.disks(func(d *disk.Disk) api.Errno { return d.Append("shelf.new", []byte(text)) })
	case 7:
		if len(names) > 0 {
			name := names[m.below(len(names))]
			x.disks(func(d *disk.Disk) api.Errno { return d.Remove(name) })
		}
	case 8:
		if len(names) > 0 {
			name, at, bit := names[m.below(len(names))], m.below(30), m.below(8)
			x.disks(func(d *disk.Disk) api.Errno { return d.Turn(name, at, bit) })
		}
	default:
		name, text := m.name(), m.content()
		if !slices.Contains(names, name) {
			x.disks(func(d *disk.Disk) api.Errno { return d.Append(name, []byte(text)) })
		}
	}
}

// P7.1 to P7.6, in long rows: whatever is called, wherever the power goes and whatever others do to the disk, works are done and told as by hand.
func TestLongRows(t *testing.T) {
	seen := map[api.Errno]int{}
	for row := range 400 {
		m := mixer(1000 + row)
		x := newBoth(t, []int{0, 60, 150, 300, 1000, 5000, 300000}[row%7])
		for range 150 {
			if m.below(4) == 0 {
				m.meddle(x)
				x.alike()
			}
			if x.h.broken && m.below(3) == 0 {
				x.d.Boot()
				x.hand.Boot()
				x.opens()
			}
			seen[m.call(x)]++
			x.alike()
		}
	}
	for _, e := range []api.Errno{api.OK, api.ErrArg, api.ErrLimit, api.ErrDead, api.ErrSpace, api.ErrCorrupt} {
		if seen[e] < 100 {
			t.Errorf("error %d came %d times", e, seen[e])
		}
	}
}

// lays appends to a file of both disks.
func (x *both) lays(name, text string) {
	x.t.Helper()
	x.disks(func(d *disk.Disk) api.Errno { return d.Append(name, []byte(text)) })
}

// P7.1, P7.2, P7.5: the works of each call, one by one: as many are done as by hand, and the power, when it goes at one of them, leaves the same.
func TestEachWorkByHand(t *testing.T) {
	calls := map[string]func(x *both) api.Errno{
		"Put":                        func(x *both) api.Errno { return x.puts("new", "data") },
		"Put of no data":             func(x *both) api.Errno { return x.puts("new", "") },
		"Put of a key that is there": func(x *both) api.Errno { return x.puts("a", "data") },
		"Put beside files":           func(x *both) api.Errno { return x.puts("b", "data") },
		"Put of no key":              func(x *both) api.Errno { return x.puts("", "data") },
		"Put of too many data":       func(x *both) api.Errno { return x.puts("new", long(180001)) },
		"Put without room":           func(x *both) api.Errno { return x.puts("new", long(5000)) },
		"Put behind another's new":   func(x *both) api.Errno { x.lays("shelf.new", "x"); return x.puts("new", "data") },
		"Get":                        func(x *both) api.Errno { return x.gets("a") },
		"Keys and Bad":               func(x *both) api.Errno { return x.lists() },
		"Sweep of all":               func(x *both) api.Errno { return x.sweeps() },
		"Sweep of some":              func(x *both) api.Errno { return x.sweeps("a", "none") },
		"Sweep of another's":         func(x *both) api.Errno { return x.sweeps("c", "d") },
		"Open":                       func(x *both) api.Errno { return x.opens() },
		"Open with a new file":       func(x *both) api.Errno { x.lays("shelf.new", written("a", "x")); return x.opens() },
	}
	for what, call := range calls {
		t.Run(what, func(t *testing.T) {
			for n := range 8 {
				for first := range 8 {
					for _, second := range []int{0, 1, 11, 16, 17, 20, 22, 23, 24, -1} {
						x := newBoth(t, 300)
						answers(t, x.puts("a", "first"), api.OK)
						x.lays(nameOf("b", 0), "torn")
						x.lays(nameOf("b", 2), written("c", "data"))
						x.lays(nameOf("b", 3), written("d", ""))
						x.disks(func(d *disk.Disk) api.Errno { return d.Sync(nameOf("b", 2)) })
						keep := []int{first, second, second, second / 2, second / 3, second}
						x.d.Fail(n, keep)
						x.hand.Fail(n, keep)
						call(x)
						x.alike()
						x.d.Crash(keep)
						x.hand.Crash(keep)
						x.d.Boot()
						x.hand.Boot()
						x.alike()
						x.opens()
						x.alike()
						x.lists()
					}
				}
			}
		})
	}
}
