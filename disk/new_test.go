package disk_test

import (
	"bytes"
	"math"
	"strings"
	"testing"

	"incunable/api"
	"incunable/disk"
)

// P5.1: rooms that are none.
func TestNewOfOtherRooms(t *testing.T) {
	for _, room := range []int{math.MinInt, -1 << 24, -2, -1, 1<<24 + 1, 1<<24 + 2, 1 << 25, 1 << 32, math.MaxInt} {
		if d, e := disk.New(room); d != nil || e != api.ErrRange {
			t.Errorf("New(%d): %v, error %d; want error %d alone", room, d, e, api.ErrRange)
		}
	}
}

// P5.1: rooms that are some: the disk is empty, alive, and has just that room.
func TestNew(t *testing.T) {
	for _, room := range []int{0, 1, 2, 100, 65536, 1<<24 - 1, 1 << 24} {
		d := newDisk(t, room)
		namesAre(t, d)
		leftIs(t, d, room)
		if d.Dead() {
			t.Errorf("New(%d) is dead", room)
		}
		answers(t, d.Append("a", make([]byte, room+1)), api.ErrSpace)
		namesAre(t, d)
		answers(t, d.Append("a", make([]byte, room)), api.OK)
		leftIs(t, d, 0)
		answers(t, d.Append("a", []byte{1}), api.ErrSpace)
		answers(t, d.Append("b", nil), api.OK)
		if size, e := d.Size("a"); size != room || e != api.OK {
			t.Errorf("of %d bytes: size %d, error %d", room, size, e)
		}
	}
}

// P5.1, R2: disks have nothing to do with one another.
func TestDisksStandAlone(t *testing.T) {
	one, two := newBoth(t, 20), newBoth(t, 30)
	one.does(appends("a", []byte("xy")), syncsNames(), syncs("a"))
	two.does(appends("a", []byte("other")), appends("b", nil))
	one.d.Fail(1, nil)
	one.m.fail(1, nil)
	two.falls(2, 3)
	one.does(renames("a", "b"), appends("a", nil)).boots()
	two.does(appends("a", []byte("!")), removes("b"))
	one.m.looksAs(t, one.d)
	two.m.looksAs(t, two.d)
}

// refusals fails unless all calls answer that, and nothing else.
func refusals(t *testing.T, d *disk.Disk, want api.Errno) {
	t.Helper()
	for _, name := range []string{"a", "b", "", strings.Repeat("n", 41)} {
		read, readE := d.Read(name)
		size, sizeE := d.Size(name)
		if len(read) != 0 || size != 0 {
			t.Errorf("%q: %q, size %d", name, read, size)
		}
		for what, e := range map[string]api.Errno{
			"Append":         d.Append(name, []byte("b")),
			"Append nothing": d.Append(name, nil),
			"Append much":    d.Append(name, make([]byte, 1000)),
			"Sync":           d.Sync(name),
			"Cut":            d.Cut(name, 0),
			"Cut below":      d.Cut(name, -1),
			"Rename":         d.Rename(name, "c"),
			"Rename itself":  d.Rename(name, name),
			"Rename to none": d.Rename(name, ""),
			"Remove":         d.Remove(name),
			"SyncNames":      d.SyncNames(),
			"Turn":           d.Turn(name, 0, 0),
			"Turn below":     d.Turn(name, -1, 8),
			"Read":           readE,
			"Size":           sizeE,
		} {
			if e != want {
				t.Errorf("%s(%q): error %d, want %d", what, name, e, want)
			}
		}
	}
	if l := d.Names(); len(l) != 0 {
		t.Errorf("names: %q", l)
	}
	if n := d.Left(); n != 0 {
		t.Errorf("left: %d", n)
	}
}

// P5.1, R1: every call of a disk that is none; nothing is done, so it is none still, also behind Boot.
func TestCallsOfNone(t *testing.T) {
	for _, d := range []*disk.Disk{nil, {}, new(disk.Disk)} {
		for range 2 {
			refusals(t, d, api.ErrNil)
			d.Fail(0, []int{1})
			refusals(t, d, api.ErrNil)
			d.Crash([]int{1, 2})
			if d.Dead() {
				t.Error("one that is none is dead")
			}
			d.Crash(nil)
			d.Boot()
			if d.Dead() {
				t.Error("one that is none is dead")
			}
			refusals(t, d, api.ErrNil)
		}
	}
	var none disk.Disk
	none.Boot()
	refusals(t, &none, api.ErrNil)
}

// P5.1, P5.5: every call of a dead disk, whatever it is handed; behind Boot all is as it was.
func TestCallsOfADeadOne(t *testing.T) {
	for what, kill := range map[string]func(d *disk.Disk){
		"Crash": func(d *disk.Disk) { d.Crash([]int{0, 1}) },
		"Fail": func(d *disk.Disk) {
			d.Fail(0, []int{0, 1})
			answers(t, d.Sync("a"), api.ErrDead)
		},
		"Crash and a Fail left": func(d *disk.Disk) {
			d.Fail(3, []int{5, 5})
			d.Crash([]int{0, 1})
		},
	} {
		t.Run(what, func(t *testing.T) {
			d := newDisk(t, 20)
			answers(t, d.Append("a", []byte("xyz")), api.OK)
			answers(t, d.SyncNames(), api.OK)
			answers(t, d.Append("b", []byte("123")), api.OK)
			kill(d)
			if !d.Dead() {
				t.Fatal("it is alive")
			}
			refusals(t, d, api.ErrDead)
			d.Crash([]int{1, 0, 0})
			d.Crash(nil)
			d.Fail(0, nil)
			d.Fail(-1, nil)
			d.Fail(0, []int{3})
			if !d.Dead() {
				t.Fatal("it is alive")
			}
			refusals(t, d, api.ErrDead)
			d.Boot()
			if d.Dead() {
				t.Fatal("it is dead still")
			}
			namesAre(t, d, "a")
			readIs(t, d, "a", "x")
			leftIs(t, d, 19)
			for range 10 {
				answers(t, d.Sync("a"), api.OK)
			}
		})
	}
}

// P5.2, P5.3: whatever bytes a name has, it is one, if it has from 1 to 40.
func TestNamesOfAllBytes(t *testing.T) {
	for b := range 256 {
		x := newBoth(t, 100)
		x.does(appends("file", nil))
		for _, n := range []int{1, 2, 39, 40} {
			name := string(bytes.Repeat([]byte{byte(b)}, n))
			x.does(appends(name, []byte("b")), renames("file", name), renames(name, "file"), appends(name, nil))
		}
		for _, n := range []int{0, 41, 42, 256 + 1, 1<<16 + 1} {
			name := string(bytes.Repeat([]byte{byte(b)}, n))
			x.does(appends(name, []byte("b")), renames("file", name))
			answers(t, x.d.Append(name, nil), api.ErrName)
			answers(t, x.d.Rename("file", name), api.ErrName)
		}
		if got := len(x.d.Names()); got != 5 {
			t.Fatalf("byte %02x: %d names", b, got)
		}
	}
}
