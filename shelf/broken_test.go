package shelf_test

import (
	"testing"

	"incunable/api"
	"incunable/disk"
	"incunable/shelf"
)

// P7.6: shelves that are none: nil, or zero ones.
func TestNone(t *testing.T) {
	var zero shelf.Shelf
	for _, s := range []*shelf.Shelf{nil, {}, new(shelf.Shelf), &zero} {
		for range 2 {
			allAnswer(t, s, api.ErrNil)
			if s.Broken() {
				t.Fatal("none is broken")
			}
		}
	}
}

// P7.6: a shelf is not broken by what is refused, nor by ErrSpace.
func TestNotBroken(t *testing.T) {
	d, s := begun(t, 60, "a", "x")
	lay(t, d, nameOf("b", 0), "torn")
	for range 3 {
		answers(t, s.Put(nil, nil), api.ErrArg)
		answers(t, s.Put([]byte("a"), make([]byte, mostData+1)), api.ErrLimit)
		answers(t, s.Put([]byte("c"), make([]byte, 100)), api.ErrSpace)
		lacks(t, s, api.ErrArg, "")
		lacks(t, s, api.ErrCorrupt, "b")
		gets(t, s, "a", "x")
		tells(t, s, 1, "a")
	}
	puts(t, s, "d", "y")
	must(t, s.Sweep(lists("d")))
	tells(t, s, 0, "d")
}

// calls are all calls of a shelf, each with an answer that is seen when the disk is dead.
func calls() map[string]func(t *testing.T, s *shelf.Shelf) {
	return map[string]func(t *testing.T, s *shelf.Shelf){
		"Put":                        func(t *testing.T, s *shelf.Shelf) { answers(t, s.Put([]byte("c"), []byte("z")), api.ErrDead) },
		"Put of a key that is there": func(t *testing.T, s *shelf.Shelf) { answers(t, s.Put([]byte("a"), nil), api.ErrDead) },
		"Put of no key":              func(t *testing.T, s *shelf.Shelf) { answers(t, s.Put(nil, nil), api.ErrDead) },
		"Put of too many data": func(t *testing.T, s *shelf.Shelf) {
			answers(t, s.Put([]byte("c"), make([]byte, mostData+1)), api.ErrDead)
		},
		"Put without room": func(t *testing.T, s *shelf.Shelf) { answers(t, s.Put([]byte("c"), make([]byte, 1000)), api.ErrDead) },
		"Get":              func(t *testing.T, s *shelf.Shelf) { lacks(t, s, api.ErrDead, "a") },
		"Get of none":      func(t *testing.T, s *shelf.Shelf) { lacks(t, s, api.ErrDead, "c") },
		"Get of no key":    func(t *testing.T, s *shelf.Shelf) { lacks(t, s, api.ErrDead, "") },
		"Sweep":            func(t *testing.T, s *shelf.Shelf) { answers(t, s.Sweep(nil), api.ErrDead) },
		"Sweep of all":     func(t *testing.T, s *shelf.Shelf) { answers(t, s.Sweep(lists("a")), api.ErrDead) },
		"Keys": func(t *testing.T, s *shelf.Shelf) {
			if l := s.Keys(); len(l) != 0 {
				t.Fatalf("Keys: %q", l)
			}
		},
		"Bad": func(t *testing.T, s *shelf.Shelf) {
			if n := s.Bad(); n != 0 {
				t.Fatalf("Bad: %d", n)
			}
		},
		"Broken": func(t *testing.T, s *shelf.Shelf) {
			if !s.Broken() {
				t.Fatal("the shelf is not broken")
			}
		},
	}
}

// P7.6: a shelf whose disk is dead at one of its calls is broken, for good, also when the power is there again. Another one goes on.
func TestDeadAtACall(t *testing.T) {
	for what, call := range calls() {
		t.Run(what, func(t *testing.T) {
			d, s := begun(t, 200, "a", "x")
			lay(t, d, nameOf("b", 0), "torn")
			d.Crash(nil)
			call(t, s)
			call(t, s)
			d.Boot()
			call(t, s)
			isBroken(t, s)
			s = opens(t, d)
			gets(t, s, "a", "x")
			tells(t, s, 1, "a")
		})
	}
}

// P7.6: a broken shelf does nothing to the disk.
func TestBrokenDoesNothing(t *testing.T) {
	d, s := begun(t, 200, "a", "x")
	falls(d)
	gets(t, s, "a", "x")
	d.Crash(nil)
	isBroken(t, s)
	d.Boot()
	noWork(t, d, func() { isBroken(t, s) })
	hasFiles(t, d, nameOf("a", 0), written("a", "x"))
}

// P7.6: a fall that no call has seen, as the power was there again, breaks nothing.
func TestUnseenFall(t *testing.T) {
	d, s := begun(t, 200, "a", "x")
	falls(d)
	if s.Broken() {
		t.Fatal("the shelf is broken")
	}
	falls(d)
	puts(t, s, "b", "y")
	falls(d, 1, 2, 3)
	gets(t, s, "a", "x", "b", "y")
	must(t, s.Sweep(lists("b")))
	falls(d)
	tells(t, s, 0, "b")
}

// P7.6: the power goes at each work of Put and Sweep: the call answers ErrDead, and the shelf is broken from then on.
func TestBrokenAtEachWork(t *testing.T) {
	for what, call := range map[string]func(s *shelf.Shelf) api.Errno{
		"Put":   func(s *shelf.Shelf) api.Errno { return s.Put([]byte("c"), []byte("z")) },
		"Sweep": func(s *shelf.Shelf) api.Errno { return s.Sweep(lists("b")) },
	} {
		t.Run(what, func(t *testing.T) {
			begin := func() (*disk.Disk, *shelf.Shelf) {
				d, s := begun(t, 1000, "a", "x", "b", "y", "e", "w")
				lay(t, d, nameOf("d", 0), "torn")
				return d, s
			}
			n := works(t, func() (*disk.Disk, func() api.Errno) {
				d, s := begin()
				return d, func() api.Errno { return call(s) }
			})
			if n != 4 {
				t.Fatalf("%d works, want 4", n)
			}
			for n := range 4 {
				d, s := begin()
				d.Fail(n, nil)
				answers(t, call(s), api.ErrDead)
				isBroken(t, s)
				d.Boot()
				noWork(t, d, func() { isBroken(t, s) })
				s = opens(t, d)
				must(t, call(s))
			}
			d, s := begin()
			d.Fail(4, nil)
			must(t, call(s))
			if s.Broken() {
				t.Fatal("the shelf is broken")
			}
			gets(t, s, "b", "y")
		})
	}
}

// P7.6: of two shelves of one disk just the one is broken that has seen it dead.
func TestOneOfTwoIsBroken(t *testing.T) {
	d, s := begun(t, 200, "a", "x")
	other := opens(t, d)
	d.Crash(nil)
	lacks(t, s, api.ErrDead, "a")
	d.Boot()
	isBroken(t, s)
	gets(t, other, "a", "x")
	tells(t, other, 0, "a")
}
