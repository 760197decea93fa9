package disk_test

import (
	"math"
	"slices"
	"strings"
	"testing"

	"incunable/api"
)

// tooLong is one byte more than a name may have.
var tooLong = strings.Repeat("n", 41)

// P5.2: names that are none are refused ahead of the room that is lacking, and no file is born.
func TestAppendToNone(t *testing.T) {
	d := newDisk(t, 3)
	for _, name := range []string{"", tooLong, strings.Repeat("n", 80), strings.Repeat("\xff", 41)} {
		answers(t, d.Append(name, []byte("b")), api.ErrName)
		answers(t, d.Append(name, nil), api.ErrName)
		answers(t, d.Append(name, []byte("much")), api.ErrName)
	}
	namesAre(t, d)
	leftIs(t, d, 3)
	longest := strings.Repeat("n", 40)
	answers(t, d.Append(longest, []byte("b")), api.OK)
	answers(t, d.Append("n", []byte("b")), api.OK)
	namesAre(t, d, "n", longest)
}

// P5.2: what is appended stands behind what there was; a file is born with no bytes, too.
func TestAppend(t *testing.T) {
	x := newBoth(t, 100)
	x.does(appends("a", []byte("xy")), appends("b", nil), appends("a", nil), appends("a", []byte("z")), appends("c", []byte{}), appends("b", []byte("0")))
	namesAre(t, x.d, "a", "b", "c")
	readIs(t, x.d, "a", "xyz")
	readIs(t, x.d, "b", "0")
	readIs(t, x.d, "c", "")
	leftIs(t, x.d, 96)
}

// P5.2: room that is just full, and one byte more, of one file and of several; with an error nothing has changed.
func TestAppendToAFullDisk(t *testing.T) {
	x := newBoth(t, 10)
	x.does(appends("a", []byte("12345678901")))
	namesAre(t, x.d)
	x.does(appends("a", []byte("1234")), appends("b", []byte("1234567")), appends("a", []byte("1234567")))
	namesAre(t, x.d, "a")
	leftIs(t, x.d, 6)
	x.does(appends("b", []byte("123456")))
	leftIs(t, x.d, 0)
	x.does(appends("b", []byte("7")), appends("a", []byte("5")), appends("c", []byte("1")))
	namesAre(t, x.d, "a", "b")
	x.does(appends("a", nil), appends("c", nil))
	namesAre(t, x.d, "a", "b", "c")
	// What was refused is not remembered either: of works on names there are three.
	x.falls(2, 9, 9)
	namesAre(t, x.d, "a", "b")
}

// P5.2: a disk without room has files without bytes.
func TestAppendWithoutRoom(t *testing.T) {
	x := newBoth(t, 0)
	x.does(appends("a", []byte("1")), appends("a", nil), appends("a", []byte("1")), appends("b", []byte{}), syncsNames())
	x.falls()
	namesAre(t, x.d, "a", "b")
}

// P5.2 to P5.5: of a file that is not there, or is there no more, ahead of all else that is wrong.
func TestFilesThatAreNotThere(t *testing.T) {
	x := newBoth(t, 100)
	x.does(appends("a", []byte("xy")), appends("gone", []byte("1")), appends("was", nil), syncsNames(), removes("gone"), renames("was", "is"))
	for _, name := range []string{"gone", "was", "b", "A", "a\x00", "", tooLong} {
		x.does(syncs(name), removes(name), renames(name, "c"), renames(name, "a"), renames(name, name), renames(name, ""), renames(name, tooLong))
		for _, size := range []int{0, 1, -1, 5, math.MinInt, math.MaxInt} {
			x.does(cuts(name, size))
			answers(t, x.d.Cut(name, size), api.ErrName)
			answers(t, x.d.Turn(name, size, size), api.ErrName)
		}
		answers(t, x.d.Sync(name), api.ErrName)
		answers(t, x.d.Remove(name), api.ErrName)
		answers(t, x.d.Rename(name, name), api.ErrName)
		answers(t, x.d.Rename(name, ""), api.ErrName)
		answers(t, x.d.Turn(name, 0, 0), api.ErrName)
		b, e := x.d.Read(name)
		size, f := x.d.Size(name)
		if len(b) != 0 || e != api.ErrName || size != 0 || f != api.ErrName {
			t.Errorf("%q: %q, error %d, size %d, error %d", name, b, e, size, f)
		}
	}
	namesAre(t, x.d, "a", "is")
}

// P5.2: sizes at each end and beyond; with an error nothing has changed.
func TestCut(t *testing.T) {
	x := newBoth(t, 100)
	x.does(appends("a", []byte("12345")))
	for _, size := range []int{-1, 6, math.MinInt, math.MaxInt, 1<<32 + 1, -1 << 32} {
		answers(t, x.d.Cut("a", size), api.ErrRange)
		readIs(t, x.d, "a", "12345")
		leftIs(t, x.d, 95)
	}
	x.does(cuts("a", 5))
	readIs(t, x.d, "a", "12345")
	x.does(cuts("a", 4), cuts("a", 5))
	readIs(t, x.d, "a", "1234")
	leftIs(t, x.d, 96)
	x.does(appends("a", []byte("xy")))
	readIs(t, x.d, "a", "1234xy")
	x.does(cuts("a", 0), cuts("a", 1), cuts("a", 0))
	readIs(t, x.d, "a", "")
	leftIs(t, x.d, 100)
	namesAre(t, x.d, "a")
}

// P5.2: all sizes, of files of which all beginnings are synced, and all that may stay behind a fall: below the mark it comes down, and what was cut off never comes back.
func TestCutAndTheMark(t *testing.T) {
	for mark := range 5 {
		for size := range 7 {
			for keep := range 9 {
				x := newBoth(t, 100)
				x.does(appends("a", []byte("0123")[:mark]), syncs("a"), appends("a", []byte("012345")[mark:]), syncsNames())
				x.does(cuts("a", size), appends("a", []byte("xy")))
				x.falls(0, keep)
				want := "012345"[:min(mark, size)] + ("012345"[min(mark, size):size] + "xy")[:keep%(size-min(mark, size)+3)]
				readIs(t, x.d, "a", want)
			}
		}
	}
}

// P5.2: what is synced is what there is then, and of that file alone.
func TestSync(t *testing.T) {
	x := newBoth(t, 100)
	x.does(appends("a", []byte("12")), appends("b", []byte("34")), syncsNames(), syncs("a"), appends("a", []byte("56")), appends("b", []byte("78")))
	x.falls()
	readIs(t, x.d, "a", "12")
	readIs(t, x.d, "b", "")
	x.does(appends("b", []byte("9")), syncs("b"), syncs("b"), syncs("a")).falls()
	readIs(t, x.d, "b", "9")
}

// P5.3: to itself, whatever may stay: nothing is done, and nothing remembered.
func TestRenameToItself(t *testing.T) {
	x := newBoth(t, 100)
	x.does(appends("a", []byte("xy")), renames("a", "a"), appends("b", nil), renames("b", "b"), syncs("a"))
	namesAre(t, x.d, "a", "b")
	readIs(t, x.d, "a", "xy")
	leftIs(t, x.d, 98)
	// Of two births and nothing else 3 is none, and 2 all.
	x.falls(2)
	namesAre(t, x.d, "a", "b")
	y := newBoth(t, 100)
	y.does(appends("a", nil), renames("a", "a"), renames("a", "a")).falls(2)
	namesAre(t, y.d)
}

// P5.3: to a name that is free, to one that another file has, to one that is none.
func TestRename(t *testing.T) {
	x := newBoth(t, 100)
	x.does(appends("a", []byte("xy")), appends("b", []byte("123")))
	for _, to := range []string{"", tooLong} {
		answers(t, x.d.Rename("a", to), api.ErrName)
		namesAre(t, x.d, "a", "b")
	}
	x.does(renames("a", strings.Repeat("n", 40)), renames(strings.Repeat("n", 40), "c"))
	namesAre(t, x.d, "b", "c")
	readIs(t, x.d, "c", "xy")
	leftIs(t, x.d, 95)
	x.does(renames("c", "b"))
	namesAre(t, x.d, "b")
	readIs(t, x.d, "b", "xy")
	leftIs(t, x.d, 98)
	x.does(appends("c", []byte("new")), appends("b", []byte("z")))
	readIs(t, x.d, "c", "new")
	readIs(t, x.d, "b", "xyz")
}

// P5.3: a mark goes with its file, under whatever name.
func TestRenameTakesTheMarkAlong(t *testing.T) {
	x := newBoth(t, 100)
	x.does(appends("a", []byte("12")), syncs("a"), appends("a", []byte("3")), appends("b", []byte("45")), renames("b", "c"), renames("a", "b"), renames("c", "a"), syncsNames())
	x.falls()
	readIs(t, x.d, "b", "12")
	readIs(t, x.d, "a", "")
}

// P5.3: a name that is gone is free: a file that is born under it is another one, though the old one is kept.
func TestRemove(t *testing.T) {
	x := newBoth(t, 100)
	x.does(appends("a", []byte("old")), appends("b", nil), syncs("a"), syncsNames(), removes("a"))
	namesAre(t, x.d, "b")
	x.does(removes("a"), appends("a", []byte("n")))
	readIs(t, x.d, "a", "n")
	for keep, want := range []string{"old", "", "n"} {
		y := newBoth(t, 100)
		y.does(appends("a", []byte("old")), syncs("a"), syncsNames(), removes("a"), appends("a", []byte("n")), syncs("a"))
		y.falls(keep)
		if keep == 1 {
			namesAre(t, y.d)
		} else {
			readIs(t, y.d, "a", want)
		}
	}
}

// P5.2, P5.3: what has neither a name of now nor a kept one uses no room; what has one of them, or both, uses its own once.
func TestRoomOfWhatIsGone(t *testing.T) {
	x := newBoth(t, 20)
	x.does(appends("a", []byte("12345678")), appends("b", []byte("1234")))
	leftIs(t, x.d, 8)
	x.does(removes("a"))
	leftIs(t, x.d, 16)
	x.does(appends("a", []byte("123")), renames("a", "b"))
	leftIs(t, x.d, 17)
	x.does(syncsNames())
	leftIs(t, x.d, 17)
	// From here on the file of 3 bytes is kept as b.
	x.does(appends("c", []byte("12345")), renames("c", "b"))
	leftIs(t, x.d, 12)
	x.does(removes("b"))
	leftIs(t, x.d, 17)
	x.does(appends("d", make([]byte, 18)), appends("d", make([]byte, 17)), removes("d"), syncsNames())
	leftIs(t, x.d, 20)
	namesAre(t, x.d)
}

// P5.2: one that is kept under another name uses its room once, also when it grows and is cut.
func TestRoomOfWhatIsRenamed(t *testing.T) {
	x := newBoth(t, 20)
	x.does(appends("a", []byte("1234")), syncsNames(), renames("a", "b"))
	leftIs(t, x.d, 16)
	x.does(appends("b", []byte("56")))
	leftIs(t, x.d, 14)
	x.does(appends("a", []byte("789")))
	leftIs(t, x.d, 11)
	x.does(renames("b", "c"), cuts("c", 1))
	leftIs(t, x.d, 16)
	x.does(removes("c"), syncsNames())
	leftIs(t, x.d, 17)
	x.does(removes("a"), syncsNames())
	leftIs(t, x.d, 20)
}

// P5.2, P5.4: a fall can bring back what had no name any more, beside what grew since: more than there is room for is used then.
func TestMoreThanTheRoomBehindAFall(t *testing.T) {
	x := newBoth(t, 10)
	x.does(appends("a", []byte("12345")), appends("b", []byte("12345")), removes("a"), appends("b", []byte("67890"))).falls(2, 5, 10)
	namesAre(t, x.d, "a", "b")
	leftIs(t, x.d, -5)
	answers(t, x.d.Append("b", []byte("1")), api.ErrSpace)
	answers(t, x.d.Append("c", nil), api.ErrSpace)
	x.does(appends("b", nil), cuts("b", 5), appends("c", nil), appends("c", []byte("1")))
	leftIs(t, x.d, 0)
}

// P5.4: names rise by their bytes, whatever came first.
func TestNamesRise(t *testing.T) {
	x := newBoth(t, 100)
	l := []string{"b", "a", "ab", "aa", "a\x00", "\x00", "\xff", "Z", "a/b", "10", "9", "é", strings.Repeat("z", 40), "zz", "-", "B"}
	for _, name := range l {
		x.does(appends(name, []byte(name)[:1]))
	}
	slices.Sort(l)
	namesAre(t, x.d, l...)
	x.does(syncsNames(), removes("ab"), renames("\xff", "\x01")).falls(2)
	if got := x.d.Names(); !slices.IsSorted(got) || len(got) != len(l)-1 || got[1] != "\x01" {
		t.Errorf("names: %q", got)
	}
}

// P5.5: a bit at each end of a file, and each of its bits; beyond that ErrRange, and nothing has changed.
func TestTurn(t *testing.T) {
	x := newBoth(t, 100)
	x.does(appends("a", []byte{0, 0xFF, 0x5A}), appends("none", nil))
	for _, c := range []struct{ at, bit int }{{-1, 0}, {3, 0}, {0, -1}, {0, 8}, {2, 8}, {3, 8}, {-1, -1}, {math.MinInt, 0}, {math.MaxInt, 0}, {0, math.MinInt}, {0, math.MaxInt}, {1 << 32, 0}, {0, 1 << 32}, {0, 64}} {
		answers(t, x.d.Turn("a", c.at, c.bit), api.ErrRange)
		answers(t, x.d.Turn("none", c.at, c.bit), api.ErrRange)
		x.m.looksAs(t, x.d)
	}
	answers(t, x.d.Turn("none", 0, 0), api.ErrRange)
	for at := range 3 {
		for bit := range 8 {
			want := []byte{0, 0xFF, 0x5A}
			want[at] ^= 1 << bit
			answers(t, x.d.Turn("a", at, bit), api.OK)
			readIs(t, x.d, "a", string(want))
			answers(t, x.d.Turn("a", at, bit), api.OK)
			readIs(t, x.d, "a", "\x00\xff\x5a")
		}
	}
	leftIs(t, x.d, 97)
}

// P5.5: what was turned stays so behind a fall, below the mark and above it; the bit alone is another one, not what is synced.
func TestTurnedBitsStay(t *testing.T) {
	for keep, want := range []string{"\x13", "\x13\x30"} {
		x := newBoth(t, 100)
		x.does(appends("a", []byte("\x12")), syncs("a"), appends("a", []byte("\x34")), syncsNames())
		for _, c := range []struct{ at, bit int }{{0, 0}, {1, 2}} {
			answers(t, x.d.Turn("a", c.at, c.bit), x.m.turn("a", c.at, c.bit))
		}
		x.falls(0, keep)
		readIs(t, x.d, "a", want)
	}
}
