package shelf_test

import (
	"maps"
	"slices"
	"testing"

	"incunable/api"
	"incunable/disk"
	"incunable/shelf"
)

// step is a call: "put" of a key and data, "sweep" of all but the keys, or "open".
type step struct {
	what string
	l    []string
}

func put(key, data string) step  { return step{"put", []string{key, data}} }
func sweep(keep ...string) step  { return step{"sweep", keep} }
func reopen() step               { return step{"open", nil} }
func steps(l ...step) []step     { return l }
func sortedKeys(m data) []string { return slices.Sorted(maps.Keys(m)) }

// data are by keys.
type data map[string]string

// life is a disk with a shelf that is used. Sure is what must be there behind a fall; maybe what may be there besides: what a put that was under way brought, or a sweep that was.
type life struct {
	t           *testing.T
	d           *disk.Disk
	s           *shelf.Shelf
	sure, maybe data
}

// does does a call, and tells whether the power stayed.
func (x *life) does(s step) bool {
	x.t.Helper()
	switch s.what {
	case "open":
		return x.opens()
	case "put":
		return x.puts(s.l[0], s.l[1])
	}
	return x.sweeps(s.l)
}

func (x *life) puts(key, text string) bool {
	x.t.Helper()
	e := x.s.Put([]byte(key), []byte(text))
	_, is := x.sure[key]
	switch {
	case is:
		// The data that are there stay.
	case e == api.OK:
		x.sure[key] = text
	default:
		x.maybe[key] = text
	}
	return x.stayed(e)
}

func (x *life) sweeps(keep []string) bool {
	x.t.Helper()
	e := x.s.Sweep(lists(keep...))
	for key, text := range x.sure {
		if !slices.Contains(keep, key) {
			delete(x.sure, key)
			if e != api.OK {
				x.maybe[key] = text
			}
		}
	}
	return x.stayed(e)
}

func (x *life) stayed(e api.Errno) bool {
	x.t.Helper()
	if e != api.OK && e != api.ErrDead {
		x.t.Fatalf("error %d", e)
	}
	if (e == api.ErrDead) != x.s.Broken() {
		x.t.Fatalf("error %d, Broken %v", e, x.s.Broken())
	}
	return e == api.OK
}

// opens opens the shelf, unless the power goes; it fails unless there is what must be, and nothing but what may be.
func (x *life) opens() bool {
	x.t.Helper()
	s, e := shelf.Open(x.d)
	if e == api.ErrDead {
		return false
	}
	if s == nil || e != api.OK {
		x.t.Fatalf("Open: error %d", e)
	}
	x.s = s
	x.looks()
	return true
}

// looks fails unless there is what must be, and nothing but what may be; what is there is sure from then on.
func (x *life) looks() {
	x.t.Helper()
	is := data{}
	for _, key := range texts(x.s.Keys()) {
		b, found, e := x.s.Get([]byte(key))
		if !found || e != api.OK {
			x.t.Fatalf("Get(%q): error %d", key, e)
		}
		is[key] = string(b)
	}
	for key, text := range is {
		want, may := x.sure[key]
		if !may {
			want, may = x.maybe[key]
		}
		if !may || text != want {
			x.t.Fatalf("%q: %q; sure: %q, maybe: %q", key, text, x.sure, x.maybe)
		}
	}
	for key := range x.sure {
		if _, there := is[key]; !there {
			x.t.Fatalf("%q is not there; sure: %q", key, x.sure)
		}
	}
	if n := x.s.Bad(); n != 0 {
		x.t.Fatalf("Bad: %d, %q", n, x.d.Names())
	}
	if len(x.d.Names()) != len(is) || slices.Contains(x.d.Names(), "shelf.new") {
		x.t.Fatalf("names: %q of %q", x.d.Names(), sortedKeys(is))
	}
	x.sure, x.maybe = is, data{}
}

// begins is a life on a new disk.
func begins(t *testing.T) *life {
	return &life{t: t, d: newDisk(t, 10000), sure: data{}, maybe: data{}}
}

// runs does the steps, up to the one at which the power goes, and tells how many were done.
func (x *life) runs(l []step) int {
	for i, s := range l {
		if !x.does(s) {
			return i
		}
	}
	return len(l)
}

// scripts are steps in which each call stands behind each other one.
func scripts() [][]step {
	return [][]step{
		steps(reopen(), put("a", "x")),
		steps(reopen(), put("a", "x"), put("b", "longer data"), sweep("b"), put("a", "y"), reopen(), put("c", "")),
		steps(reopen(), put("a", "x"), put("a", "y"), sweep("a"), sweep(), sweep("a"), put("a", "z")),
		steps(reopen(), put("a", "1"), put("b", "2"), put("c", "3"), put("d", "4"), sweep("b", "d"), sweep("d"), put("b", "5"), sweep()),
		steps(reopen(), put("key", ""), reopen(), sweep(), reopen(), put("key", "data"), sweep("key"), reopen()),
	}
}

// someKeeps are numbers to keep by: of works on names all there may be, of a file that is written all that tell its parts apart, of files that are born ahead of it any.
func someKeeps() [][]int {
	var l [][]int
	for first := range 5 {
		for _, second := range []int{0, 1, 6, 7, 11, 15, 16, 17, 18, 30} {
			l = append(l, []int{first, second, second, second, second, second})
		}
	}
	return append(l, nil, []int{-1, -1, -1, -1, -1, -1})
}

// P7.8: the power goes at each work of each script, whatever is kept; behind Boot and Open all is as it must be, and the script goes on to its end from where it stopped.
func TestFallsAtEachWork(t *testing.T) {
	for i, l := range scripts() {
		for _, keep := range someKeeps() {
			for n := 0; ; n++ {
				x := begins(t)
				x.d.Fail(n, keep)
				at := x.runs(l)
				if !x.d.Dead() {
					if at != len(l) {
						t.Fatalf("script %d stopped at %d", i, at)
					}
					break
				}
				x.d.Boot()
				x.does(reopen())
				if x.runs(l[at:]) != len(l)-at {
					t.Fatalf("script %d stopped", i)
				}
				x.looks()
				falls(x.d, keep...)
				x.does(reopen())
			}
		}
	}
}

// P7.8: the power goes again while the shelf is opened, at each work, any number of times.
func TestFallsInOpen(t *testing.T) {
	keeps := [][]int{{0, 0}, {1, 7, 7, 7, 7, 7}, {1, 99, 0, 99, 0, 99}, {2, 0, 17, 17, 17, 17}, {3, 1, 1, 1, 1, 1}, {-1, -1, -1, -1, -1, -1}, nil}
	for _, l := range scripts() {
		for _, keep := range keeps {
			for n := range 30 {
				for again := range 3 {
					for _, next := range [][]int{{0, 0}, {1, 9}, {2, 99, 99, 99, 99}} {
						x := begins(t)
						x.d.Fail(n, keep)
						at := x.runs(l)
						if !x.d.Dead() {
							continue
						}
						for range 3 {
							x.d.Boot()
							x.d.Fail(again, next)
							x.does(reopen())
							x.d.Crash(next)
						}
						x.d.Boot()
						x.does(reopen())
						x.runs(l[at:])
						x.looks()
					}
				}
			}
		}
	}
}

// P7.8: falls between calls, in long rows, with all kinds of numbers to keep by.
func TestFallsInLongRows(t *testing.T) {
	done := map[string]int{}
	for row := range 300 {
		m := mixer(2000 + row)
		x := begins(t)
		x.does(reopen())
		for range 60 {
			if m.below(3) == 0 {
				x.d.Fail(m.below(8), m.keep())
			}
			s := reopen()
			switch m.below(8) {
			case 0:
				keep := slices.DeleteFunc(sortedKeys(x.sure), func(string) bool { return m.below(3) == 0 })
				s = sweep(keep...)
			case 1:
				falls(x.d, m.keep()...)
			default:
				s = put(string(rune('a'+m.below(8))), m.text(m.below(30)))
			}
			if x.does(s) {
				done[s.what]++
				continue
			}
			done["fall"]++
			for range 10 {
				x.d.Boot()
				if m.below(2) == 0 {
					x.d.Fail(m.below(3), m.keep())
				}
				if x.does(reopen()) {
					break
				}
			}
			x.d.Boot()
			x.does(reopen())
		}
		x.looks()
	}
	for _, what := range []string{"put", "sweep", "open", "fall"} {
		if done[what] < 500 {
			t.Errorf("%q was done %d times", what, done[what])
		}
	}
}

// P7.8: what was put, and answered OK, is there behind a fall at once, whatever is kept; so is what was there ahead of it.
func TestPutIsKept(t *testing.T) {
	for _, keep := range someKeeps() {
		d, s := begun(t, 10000)
		var want []string
		for _, key := range []string{"a", "b", "c", "d", "e"} {
			puts(t, s, key, "data of "+key)
			want = append(want, key, "data of "+key)
			falls(d, keep...)
			s = opens(t, d)
			gets(t, s, want...)
		}
		tells(t, s, 0, "a", "b", "c", "d", "e")
	}
}

// P7.8: of files with unlike keys under one name's digits, and such as can't be read, none comes back or goes that should not.
func TestFallsBesideOthersFiles(t *testing.T) {
	for n := range 9 {
		for _, keep := range someKeeps() {
			d := newDisk(t, 10000)
			lay(t, d, nameOf("a", 0), written("b", "y"), nameOf("a", 1), "torn", "journal", "records")
			s := opens(t, d)
			d.Fail(n, keep)
			if s.Put([]byte("a"), []byte("x")) == api.OK {
				s.Sweep(lists("a", "b"))
			}
			falls(d, keep...)
			s = opens(t, d)
			b, _ := d.Read("journal")
			if string(b) != "records" {
				t.Fatalf("%q", b)
			}
			if n >= 4 {
				gets(t, s, "a", "x")
			}
			if slices.Contains(d.Names(), nameOf("a", 2)) {
				tells(t, s, len(d.Names())-3, "a", "b")
			} else {
				tells(t, s, 1, "b")
			}
		}
	}
}
