package disk_test

import (
	"math"
	"testing"

	"incunable/api"
	"incunable/disk"
)

// P5.5: the chapter's examples.
func TestExamples(t *testing.T) {
	first := []work{appends("a", []byte("xy")), syncs("a")}
	both := append(first[:2:2], syncsNames())
	third := append(both[:3:3], appends("a", []byte("z")))
	fourth := append(third[:4:4], appends("b", []byte("1")), syncs("b"), renames("b", "a"))

	x := newBoth(t, 100).does(first...).falls()
	namesAre(t, x.d)
	x = newBoth(t, 100).does(first[0], syncsNames()).falls()
	namesAre(t, x.d, "a")
	readIs(t, x.d, "a", "")
	for _, l := range [][]work{third, {first[0], first[1], first[0], syncsNames(), third[3]}} {
		x = newBoth(t, 100).does(l...).falls()
		namesAre(t, x.d, "a")
		readIs(t, x.d, "a", "xy")
	}
	x = newBoth(t, 100).does(fourth...).falls()
	namesAre(t, x.d, "a")
	readIs(t, x.d, "a", "xy")
	x = newBoth(t, 100).does(fourth...).falls(2)
	namesAre(t, x.d, "a")
	readIs(t, x.d, "a", "1")
}

// manyWays are rows of works behind which some works on names are remembered, and some bytes are not synced.
func manyWays() [][]work {
	a, b, c := appends("a", []byte("12")), appends("b", []byte("345")), appends("c", []byte("6"))
	return [][]work{
		{},
		{a},
		{a, b, c},
		{c, b, a},
		{a, b, syncs("a"), a, syncsNames(), b},
		{a, syncsNames(), b, renames("b", "a"), a},
		{a, syncs("a"), a, syncsNames(), removes("a"), b, syncs("b"), b},
		{a, b, syncsNames(), renames("a", "c"), renames("b", "a"), renames("c", "b"), a, b},
		{a, b, c, syncsNames(), removes("b"), removes("a"), removes("c")},
		{b, syncsNames(), removes("b"), b, removes("b"), b, syncs("b"), b},
		{b, a, syncsNames(), syncs("b"), cuts("b", 2), b, renames("b", "d"), renames("d", "e"), a, b},
		{a, b, syncsNames(), renames("a", "b"), removes("b"), a, b, renames("b", "b"), c},
		{a, b, renames("a", "c"), renames("b", "c"), appends("a", nil), a, removes("c")},
	}
}

// P5.5: keep at all values that tell works apart, and bytes, and beyond these at both ends.
func TestCrashByEachNumber(t *testing.T) {
	for i, l := range manyWays() {
		works := len(newBoth(t, 100).does(l...).m.names) - 1
		for first := -2*works - 3; first <= 2*works+3; first++ {
			for second := -7; second <= 7; second++ {
				x := newBoth(t, 100).does(l...)
				before := x.d.Names()
				x.falls(first, second, 7-second, second*second, 1)
				if works == 0 && len(x.d.Names()) != len(before) {
					t.Fatalf("row %d: %q became %q", i, before, x.d.Names())
				}
			}
		}
	}
}

// P5.5: numbers at the ends of what an int holds, lists that are too short, and such as are too long.
func TestCrashByAnyNumbers(t *testing.T) {
	some := []int{math.MinInt, math.MinInt + 1, math.MaxInt, math.MaxInt - 1, -1, 0, 1, 2, 3, 1 << 32, -1 << 32}
	for _, l := range manyWays() {
		newBoth(t, 100).does(l...).falls()
		for _, first := range some {
			newBoth(t, 100).does(l...).falls(first)
			for _, second := range some {
				newBoth(t, 100).does(l...).falls(first, second)
				newBoth(t, 100).does(l...).falls(first, 2, second, 1, 1, 1, 1, second, first)
			}
		}
	}
}

// P5.5: of works that are remembered the first ones stay, however many there are; below 0 is counted from the end on.
func TestFirstWorksStay(t *testing.T) {
	wants := [][]string{{"a"}, {"a", "b"}, {"b", "c"}, {"c"}, {"c", "d"}}
	for keep := -15; keep <= 15; keep++ {
		d := newDisk(t, 100)
		for _, e := range []api.Errno{d.Append("a", nil), d.SyncNames(), d.Append("b", nil), d.Rename("a", "c"), d.Sync("c"), d.Append("c", []byte("1")), d.Remove("b"), d.Append("d", nil)} {
			answers(t, e, api.OK)
		}
		d.Crash([]int{keep})
		d.Boot()
		namesAre(t, d, wants[(keep+15)%5]...)
	}
}

// P5.5: numbers are those of files that have a name then, in the order in which they were born, whatever their names are; those that have none take none.
func TestNumbersGoByBirths(t *testing.T) {
	x := newBoth(t, 100)
	for _, name := range []string{"z", "m", "gone", "b", "a"} {
		x.does(appends(name, []byte("1234")))
	}
	x.does(renames("z", "n"), renames("a", "z"), removes("gone"), syncsNames(), appends("y", []byte("none")))
	x.falls(0, 1, 2, 3, 4, 5)
	namesAre(t, x.d, "b", "m", "n", "z")
	readIs(t, x.d, "n", "1")
	readIs(t, x.d, "m", "12")
	readIs(t, x.d, "b", "123")
	readIs(t, x.d, "z", "1234")
	// Births are counted on behind a fall.
	x.does(appends("c", []byte("12")), appends("b", []byte("45"))).falls(1, 1, 1, 2, 1, 1)
	readIs(t, x.d, "b", "12345")
	readIs(t, x.d, "c", "1")
}

// allWorks are a work of each kind, on a disk that has a and b, and calls that are refused.
func allWorks() (works, refused []func(d *disk.Disk) api.Errno) {
	works = []func(d *disk.Disk) api.Errno{
		func(d *disk.Disk) api.Errno { return d.Append("a", []byte("2")) },
		func(d *disk.Disk) api.Errno { return d.Append("a", nil) },
		func(d *disk.Disk) api.Errno { return d.Append("new", nil) },
		func(d *disk.Disk) api.Errno { return d.Append("full", []byte("12345678")) },
		func(d *disk.Disk) api.Errno { return d.Sync("a") },
		func(d *disk.Disk) api.Errno { return d.Sync("b") },
		func(d *disk.Disk) api.Errno { return d.Cut("a", 0) },
		func(d *disk.Disk) api.Errno { return d.Cut("b", 1) },
		func(d *disk.Disk) api.Errno { return d.Rename("a", "c") },
		func(d *disk.Disk) api.Errno { return d.Rename("a", "b") },
		func(d *disk.Disk) api.Errno { return d.Rename("a", "a") },
		func(d *disk.Disk) api.Errno { return d.Remove("b") },
		func(d *disk.Disk) api.Errno { return d.SyncNames() },
	}
	refused = []func(d *disk.Disk) api.Errno{
		func(d *disk.Disk) api.Errno { return d.Append("", nil) },
		func(d *disk.Disk) api.Errno { return d.Append("a", make([]byte, 9)) },
		func(d *disk.Disk) api.Errno { return d.Append("x", make([]byte, 9)) },
		func(d *disk.Disk) api.Errno { return d.Sync("x") },
		func(d *disk.Disk) api.Errno { return d.Cut("x", 0) },
		func(d *disk.Disk) api.Errno { return d.Cut("a", 2) },
		func(d *disk.Disk) api.Errno { return d.Cut("a", -1) },
		func(d *disk.Disk) api.Errno { return d.Rename("x", "y") },
		func(d *disk.Disk) api.Errno { return d.Rename("x", "x") },
		func(d *disk.Disk) api.Errno { return d.Rename("a", "") },
		func(d *disk.Disk) api.Errno { return d.Remove("x") },
	}
	return works, refused
}

// withFiles is a disk of ten bytes that has a and b, of one byte each, which are kept, and nothing to lose.
func withFiles(t *testing.T) *disk.Disk {
	t.Helper()
	d := newDisk(t, 10)
	for _, e := range []api.Errno{d.Append("a", []byte("1")), d.Append("b", []byte("2")), d.Sync("a"), d.Sync("b"), d.SyncNames()} {
		answers(t, e, api.OK)
	}
	return d
}

// lookAt asks all that can be asked without a work.
func lookAt(d *disk.Disk) {
	for _, name := range d.Names() {
		d.Read(name)
		d.Size(name)
		d.Turn(name, 0, 0)
		d.Turn(name, 0, 0)
		d.Turn(name, -1, 0)
	}
	d.Read("x")
	d.Left()
	d.Dead()
}

// P5.5: each kind of work is one that is not done when the power goes at it; what is refused is none, what only asks is none.
func TestEachWorkFails(t *testing.T) {
	works, refused := allWorks()
	for i, w := range works {
		answers(t, w(withFiles(t)), api.OK)
		for _, keep := range [][]int{nil, {0}, {1, 1, 1}, {2}, {-1, -1, -1}} {
			d := withFiles(t)
			d.Fail(0, keep)
			for _, r := range refused {
				if e := r(d); e == api.OK || e == api.ErrDead {
					t.Fatalf("error %d", e)
				}
			}
			lookAt(d)
			if d.Dead() {
				t.Fatal("it is dead")
			}
			if e := w(d); e != api.ErrDead || !d.Dead() {
				t.Fatalf("work %d: error %d, dead %v", i, e, d.Dead())
			}
			d.Boot()
			namesAre(t, d, "a", "b")
			readIs(t, d, "a", "1")
			readIs(t, d, "b", "2")
			leftIs(t, d, 8)
			for range 20 {
				answers(t, d.SyncNames(), api.OK)
			}
		}
	}
}

// P5.5: just so many works are done, whatever is refused or only asked between.
func TestFailBehindSomeWorks(t *testing.T) {
	_, refused := allWorks()
	for n := range 20 {
		d := withFiles(t)
		d.Fail(n, []int{0, 9})
		for i := range n {
			refused[i%len(refused)](d)
			lookAt(d)
			if i%3 == 0 {
				answers(t, d.Rename("a", "a"), api.OK)
			} else if i%3 == 1 {
				answers(t, d.Append("b", nil), api.OK)
			} else {
				answers(t, d.Sync("a"), api.OK)
			}
			if d.Dead() {
				t.Fatalf("behind %d of %d works it is dead", i+1, n)
			}
		}
		answers(t, d.Append("a", []byte("!")), api.ErrDead)
		if !d.Dead() {
			t.Fatalf("behind %d works it is alive", n)
		}
		d.Boot()
		readIs(t, d, "a", "1")
	}
}

// P5.5: what is kept, when a told power goes, is as Crash has it by the same numbers.
func TestFailKeepsAsCrashDoes(t *testing.T) {
	for _, l := range manyWays() {
		for n := range len(l) + 1 {
			for _, keep := range [][]int{nil, {1}, {2, 1}, {3, 2, 1, 4}, {-1, -1, -1, -1}, {math.MinInt, math.MaxInt, 5}} {
				x := newBoth(t, 100)
				x.d.Fail(n, keep)
				x.m.fail(n, keep)
				for _, w := range l {
					answers(t, w.of(x.d), x.m.do(w))
				}
				x.m.looksAs(t, x.d)
				x.boots().does(appends("a", []byte("more")), syncsNames())
			}
		}
	}
}

// P5.5: below 0 it does not fail, whatever was told ahead; what is told last counts.
func TestFailIsTakenBack(t *testing.T) {
	for _, n := range []int{-1, -2, math.MinInt} {
		d := withFiles(t)
		d.Fail(n, nil)
		answers(t, d.Sync("a"), api.OK)
		d.Fail(1, nil)
		answers(t, d.Sync("a"), api.OK)
		d.Fail(n, []int{1})
		for range 50 {
			answers(t, d.Sync("a"), api.OK)
		}
	}
	d := withFiles(t)
	d.Fail(0, []int{1, 1})
	d.Fail(3, nil)
	for range 3 {
		answers(t, d.Append("c", []byte("x")), api.OK)
	}
	d.Fail(math.MaxInt, []int{1})
	for range 50 {
		answers(t, d.Sync("c"), api.OK)
	}
	d.Fail(1, []int{1, 0, 0, 2})
	answers(t, d.Cut("c", 2), api.OK)
	answers(t, d.SyncNames(), api.ErrDead)
	d.Boot()
	namesAre(t, d, "a", "b", "c")
	readIs(t, d, "c", "xx")
}

// P5.5: Boot of one that is alive: nothing is synced or lost by it, and what Fail told is taken back.
func TestBootOfOneThatIsAlive(t *testing.T) {
	for _, keep := range [][]int{nil, {1}, {1, 1}, {2, 1}, {2, 2, 1}} {
		x := newBoth(t, 100)
		x.does(appends("a", []byte("xy"))).boots().does(appends("b", []byte("z"))).boots()
		namesAre(t, x.d, "a", "b")
		if x.d.Dead() {
			t.Fatal("it is dead")
		}
		x.falls(keep...)
	}
	for n := range 3 {
		d := withFiles(t)
		d.Fail(n, nil)
		d.Boot()
		for range 10 {
			answers(t, d.Sync("a"), api.OK)
		}
	}
}

// P5.5: behind Crash and Boot it does not fail, though it was told to ahead.
func TestBootOfADeadOneThatWasToldToFail(t *testing.T) {
	for n := range 3 {
		d := withFiles(t)
		d.Fail(n, []int{1})
		d.Crash(nil)
		d.Fail(n, nil)
		d.Boot()
		for range 10 {
			answers(t, d.Sync("a"), api.OK)
		}
		d.Boot()
		d.Fail(1, nil)
		answers(t, d.Sync("a"), api.OK)
		answers(t, d.Sync("a"), api.ErrDead)
	}
}

// P5.5: Dead, from the beginning on.
func TestDead(t *testing.T) {
	d := newDisk(t, 10)
	for range 3 {
		for range 2 {
			d.Boot()
			if d.Dead() {
				t.Error("it is dead")
			}
		}
		for range 2 {
			d.Crash(nil)
			if !d.Dead() {
				t.Error("it is alive")
			}
		}
	}
}
