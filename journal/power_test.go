package journal_test

import (
	"slices"
	"testing"

	"incunable/api"
	"incunable/disk"
	"incunable/journal"
)

// step is a call of a journal: "open", "sync", "append" of the first text, or "checkpoint" of all.
type step struct {
	what string
	l    []string
}

func appends(text string) step      { return step{"append", []string{text}} }
func syncs() step                   { return step{"sync", nil} }
func checkpoints(l ...string) step  { return step{"checkpoint", l} }
func reopens() step                 { return step{"open", nil} }
func steps(l ...step) []step        { return l }
func with(a, b []string) []string   { return slices.Concat(a, b) }
func same(l ...[]string) [][]string { return l }

// life is a disk with a journal that is used, and the records that may be there behind a fall: those there were at some time since all were kept.
type life struct {
	t   *testing.T
	d   *disk.Disk
	j   *journal.Journal
	may [][]string
}

// now are the records that there are.
func (x *life) now() []string { return x.may[len(x.may)-1] }

// does does a call, and tells whether the power stayed.
func (x *life) does(s step) bool {
	x.t.Helper()
	switch s.what {
	case "open":
		return x.opens()
	case "sync":
		e := x.j.Sync()
		if e == api.OK {
			x.may = same(x.now())
		}
		return x.stayed(e)
	case "append":
		x.may = append(x.may, with(x.now(), s.l))
		return x.stayed(x.j.Append([]byte(s.l[0])))
	}
	e := x.j.Checkpoint(lists(s.l...))
	x.may = append(x.may, s.l)
	if e == api.OK {
		x.may = same(s.l)
	}
	return x.stayed(e)
}

func (x *life) stayed(e api.Errno) bool {
	x.t.Helper()
	if e != api.OK && e != api.ErrDead {
		x.t.Fatalf("error %d", e)
	}
	return e == api.OK
}

// opens opens the journal, unless the power goes; it fails if there are records that may not be there.
func (x *life) opens() bool {
	x.t.Helper()
	j, l, e := journal.Open(x.d)
	if e == api.ErrDead {
		return false
	}
	if e != api.OK || !x.mayBe(texts(l)) {
		x.t.Fatalf("Open: %q, error %d; there may be one of %q", l, e, x.may)
	}
	x.j, x.may = j, same(texts(l))
	tells(x.t, j, len(l), len(l))
	return true
}

func (x *life) mayBe(l []string) bool {
	return slices.ContainsFunc(x.may, func(m []string) bool { return slices.Equal(m, l) })
}

// begins is a life on a new disk.
func begins(t *testing.T, room int) *life {
	return &life{t: t, d: newDisk(t, room), may: same(nil)}
}

// runs does the steps, up to the one at which the power goes, and tells whether it stayed.
func (x *life) runs(l []step) bool {
	for _, s := range l {
		if !x.does(s) {
			return false
		}
	}
	return true
}

// scripts are steps in which each call stands behind each other one.
func scripts() [][]step {
	return [][]step{
		steps(reopens(), appends("a"), appends(""), syncs(), appends("b")),
		steps(reopens(), appends("a"), checkpoints("b", "c"), appends("d"), syncs(), appends("e"), checkpoints()),
		steps(reopens(), checkpoints("a"), checkpoints("b"), reopens(), appends("c"), reopens(), syncs()),
		steps(reopens(), appends("a"), appends("b"), checkpoints("b"), appends("c"), appends("d"), syncs(), checkpoints("a", "b", "c")),
		steps(reopens(), syncs(), appends("one"), reopens(), checkpoints("two"), syncs(), reopens(), checkpoints("three"), reopens()),
	}
}

// someKeeps are numbers to keep by: all that tell works on names apart, and bytes of both files near the ends of heads and records.
func someKeeps() [][]int {
	var l [][]int
	for first := range 4 {
		for _, second := range []int{0, 1, 12, 15, 16, 17, 20, 21, 22, 36, 41, 42, 43, 62, -1} {
			for _, third := range []int{0, 7, 20, 21, 40, -1} {
				l = append(l, []int{first, second, third})
			}
		}
	}
	return l
}

// P6.6: the power goes at each work of each script, whatever is kept: there are records that there were since all were kept, or those of the call under way.
func TestFallsAtEachWork(t *testing.T) {
	for _, script := range scripts() {
		for _, keep := range someKeeps() {
			for n := 0; ; n++ {
				x := begins(t, 1000)
				x.d.Fail(n, keep)
				if x.runs(script) {
					break
				}
				x.d.Boot()
				x.opens()
				x.runs(script)
			}
		}
	}
}

// P6.6: of what is not synced each number of bytes may stay, of each number of works on names.
func TestFallsThatKeepEachByte(t *testing.T) {
	all := map[string]int{}
	for bytes := range 90 {
		for names := range 4 {
			for _, l := range [][]step{
				{reopens(), appends("a"), syncs(), appends("b"), appends(""), appends("c")},
				{reopens(), checkpoints("a"), appends("b"), appends(""), appends("c")},
				{reopens(), appends("a"), reopens(), appends("b"), appends(""), appends("c")},
			} {
				x := begins(t, 1000)
				x.runs(l)
				x.d.Crash([]int{names, bytes})
				x.d.Boot()
				whole := 0
				for _, end := range []int{21, 41, 62} {
					if bytes%63 >= end {
						whole++
					}
				}
				opens(t, x.d, []string{"a", "b", "", "c"}[:1+whole]...)
				all[string(rune('0'+whole))]++
			}
		}
	}
	if len(all) != 4 {
		t.Errorf("records that stayed: %v", all)
	}
}

// P6.6: behind a fall at each work the power goes again at each work of Open, and once more.
func TestFallsWhileItOpens(t *testing.T) {
	keeps := [][]int{nil, {1, 20, 7}, {2, -1, -1}, {3, 21, 40}, {-1, 17, 21}}
	for _, script := range scripts() {
		for _, keep := range keeps {
			for _, other := range keeps {
				for n := range 24 {
					for k := range 5 {
						x := begins(t, 1000)
						x.d.Fail(n, keep)
						x.runs(script)
						for again := range 3 {
							x.d.Boot()
							x.d.Fail(k-again, other)
							x.opens()
						}
						x.d.Boot()
						if !x.opens() || !x.does(appends("behind")) || !x.does(syncs()) {
							t.Fatal("it is dead")
						}
						x.d.Crash(other)
						x.d.Boot()
						x.opens()
					}
				}
			}
		}
	}
}

// P6.6: a checkpoint that the power cuts short is all there, or nothing of it; "journal.new" does not stay behind Open.
func TestFallsAtACheckpoint(t *testing.T) {
	told := map[string]int{}
	for n := range 5 {
		for _, keep := range someKeeps() {
			d, j := begun(t, 1000, "a", "b")
			must(t, j.Append([]byte("c")))
			d.Fail(n, keep)
			e := j.Checkpoint(lists("1", "", "3"))
			if (e == api.OK) != (n == 4) {
				t.Fatalf("power for %d works: error %d", n, e)
			}
			d.Crash(keep)
			d.Boot()
			_, l, e := journal.Open(d)
			answers(t, e, api.OK)
			got := ""
			for _, text := range texts(l) {
				got += text + ","
			}
			told[got]++
			if got != "a,b," && got != "a,b,c," && got != "1,,3," || n < 3 && got == "1,,3," || n == 4 && got != "1,,3," {
				t.Fatalf("power for %d works, keep %d: %q", n, keep, got)
			}
			if names := d.Names(); !slices.Equal(names, []string{"journal"}) {
				t.Fatalf("names: %q", names)
			}
		}
	}
	if len(told) != 3 {
		t.Errorf("records behind falls: %v", told)
	}
}

// P6.6: long lives of calls and falls, wherever the power goes, whatever is kept.
func TestLongLives(t *testing.T) {
	fallen := 0
	for row := range 300 {
		m := mixer(5000 + row)
		x := begins(t, 1<<16)
		x.opens()
		for range 150 {
			if m.below(5) == 0 {
				x.d.Fail(m.below(6), m.keep())
			}
			s := []step{appends(m.text(m.below(30))), appends(m.text(m.below(3))), appends(""), syncs(), checkpoints(x.now()...), checkpoints(m.text(3), "b"), checkpoints(), reopens()}[m.below(8)]
			for stayed := x.does(s); !stayed; stayed = x.opens() {
				fallen++
				x.d.Boot()
				if m.below(3) == 0 {
					x.d.Fail(m.below(4), m.keep())
				}
			}
		}
	}
	if fallen < 1000 {
		t.Errorf("%d falls", fallen)
	}
}
