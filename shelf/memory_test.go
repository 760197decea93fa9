package shelf_test

import (
	"bytes"
	"slices"
	"testing"

	"incunable/api"
	"incunable/disk"
	"incunable/shelf"
)

// P7.7: what Put is handed is only read, spare room too, and not kept: it may change behind the call.
func TestPutKeepsNothing(t *testing.T) {
	d, s := begun(t, 1<<20)
	var want []string
	for i, text := range []string{"", "x", long(64), long(20000)} {
		name := string(rune('a'+i)) + long(i*100)
		key, wholeKey := inRoom(name)
		data, wholeData := inRoom(text)
		beforeKey, beforeData := bytes.Clone(wholeKey), bytes.Clone(wholeData)
		must(t, s.Put(key, data), s.Put(key, data))
		if !bytes.Equal(wholeKey, beforeKey) || !bytes.Equal(wholeData, beforeData) {
			t.Fatal("what was handed in has changed")
		}
		spoil(key)
		spoil(data)
		want = append(want, name, text)
		gets(t, s, want...)
	}
	hasFiles(t, d, func() (l []string) {
		for pair := range slices.Chunk(want, 2) {
			l = append(l, nameOf(pair[0], 0), written(pair[0], pair[1]))
		}
		return l
	}()...)
}

// P7.7: key and data may lie in one another.
func TestPutOfSharedMemory(t *testing.T) {
	text, whole := inRoom(long(500))
	before := bytes.Clone(whole)
	_, s := begun(t, 1<<20)
	must(t, s.Put(text[:100], text[50:300]), s.Put(text[100:101], text), s.Put(text, text))
	if !bytes.Equal(whole, before) {
		t.Fatal("what was handed in has changed")
	}
	l := long(500)
	gets(t, s, l[:100], l[50:300], l[100:101], l, l, l)
}

// P7.7: what is refused is only read, too; so are the keys of Get and of Name.
func TestKeysAreOnlyRead(t *testing.T) {
	d, s := begun(t, 200, "a", "x")
	lay(t, d, nameOf("b", 0), "torn")
	for _, name := range []string{"", "a", "b", "c", long(mostKey), long(mostKey + 1)} {
		key, whole := inRoom(name)
		before := bytes.Clone(whole)
		s.Get(key)
		shelf.Name(key, 0)
		shelf.Name(key, -1)
		s.Put(key, key)
		s.Put(key, make([]byte, mostData+1))
		s.Sweep([][]byte{[]byte("a"), key})
		if !bytes.Equal(whole, before) {
			t.Fatalf("%.20q has changed", name)
		}
	}
	d.Crash(nil)
	key, whole := inRoom("a")
	before := bytes.Clone(whole)
	s.Get(key)
	s.Put(key, key)
	s.Sweep([][]byte{key})
	if !bytes.Equal(whole, before) {
		t.Fatal("a key has changed")
	}
}

// P7.7: what Get answers is new memory: neither the disk's, nor that of another answer.
func TestGetAnswersNewMemory(t *testing.T) {
	want := []string{"a", "", "b", "x", "c", long(5000)}
	d, s := begun(t, 1<<20, want...)
	before := files(d)
	for pair := range slices.Chunk(want, 2) {
		data, _, e := s.Get([]byte(pair[0]))
		other, _, f := s.Get([]byte(pair[0]))
		must(t, e, f)
		spoil(data)
		_ = append(data, "over the end"...)
		if string(other) != pair[1] {
			t.Fatalf("%q", other)
		}
		name, _ := shelf.Name([]byte(pair[0]), 0)
		must(t, d.Turn(name, 8, 3))
		if string(other) != pair[1] {
			t.Fatalf("%q", other)
		}
		must(t, d.Turn(name, 8, 3))
	}
	if !slices.Equal(files(d), before) {
		t.Fatal("a file has changed")
	}
	gets(t, s, want...)
}

// P7.7: what Keys answers is new memory: list and keys, of each call, and none lies in another one.
func TestKeysAnswersNewMemory(t *testing.T) {
	want := []string{"a", "ab", long(3000), "b", "c"}
	slices.Sort(want)
	d, s := begun(t, 1<<20)
	for _, key := range want {
		puts(t, s, key, "data of "+key)
	}
	lay(t, d, nameOf("x", 0), written("b", "again"))
	before := files(d)
	l, other := s.Keys(), s.Keys()
	for i := range l {
		if !slices.Equal(texts(l[i:]), want[i:]) {
			t.Fatalf("from %d on: %q", i, l[i:])
		}
		spoil(l[i])
		_ = append(l[i], "over the end"...)
	}
	l[0] = nil
	if !slices.Equal(texts(other), want) || !slices.Equal(files(d), before) {
		t.Fatalf("%q", other)
	}
	must(t, s.Sweep(nil))
	if !slices.Equal(texts(other), want) {
		t.Fatalf("%q", other)
	}
}

// P7.7: what Sweep is handed is only read, the list and each key, spare room too, and not kept.
func TestSweepKeepsNothing(t *testing.T) {
	want := []string{"b", "a", "none", "", "b", long(200)}
	var l, wholes, befores [][]byte
	for _, text := range want {
		inner, whole := inRoom(text)
		l, wholes, befores = append(l, inner), append(wholes, whole), append(befores, bytes.Clone(whole))
	}
	list := append(l, []byte("spare"))[:len(want)]
	unchanged := func() {
		t.Helper()
		for i := range wholes {
			if !bytes.Equal(wholes[i], befores[i]) || &list[i][:1][0] != &wholes[i][8] {
				t.Fatalf("key %d: %x became %x", i, befores[i], wholes[i])
			}
		}
		if string(list[:len(want)+1][len(want)]) != "spare" {
			t.Fatal("the list's spare room has changed")
		}
	}
	d, s := begun(t, 1<<20, "a", "x", "b", "y", "c", "z", long(200), "w")
	must(t, s.Sweep(list))
	unchanged()
	for i := range wholes {
		spoil(wholes[i])
	}
	gets(t, s, "a", "x", "b", "y", long(200), "w")
	tells(t, s, 0, "a", long(200), "b")
	for i := range wholes {
		spoil(wholes[i])
	}
	puts(t, s, "c", "z")
	d.Fail(0, nil)
	answers(t, s.Sweep(list), api.ErrDead)
	answers(t, s.Sweep(list), api.ErrDead)
	unchanged()
}

// R2, P7.7: with an error, but ErrDead as said, nothing has changed: neither what is to be seen, nor what a fall would leave.
func TestErrorsChangeNothing(t *testing.T) {
	calls := []func(s *shelf.Shelf) api.Errno{
		func(s *shelf.Shelf) api.Errno { return s.Put(nil, nil) },
		func(s *shelf.Shelf) api.Errno { return s.Put([]byte(long(mostKey+1)), nil) },
		func(s *shelf.Shelf) api.Errno { return s.Put([]byte("c"), make([]byte, mostData+1)) },
		func(s *shelf.Shelf) api.Errno { return s.Put([]byte("c"), make([]byte, 1000)) },
		func(s *shelf.Shelf) api.Errno { _, _, e := s.Get(nil); return e },
		func(s *shelf.Shelf) api.Errno { _, _, e := s.Get([]byte("b")); return e },
	}
	for i, call := range calls {
		for _, keep := range [][]int{nil, {1}, {0, 5}, {2, 21, 3}, {-1, -1, -1, -1}} {
			var got [2]*disk.Disk
			for k := range got {
				d, s := begun(t, 200, "a", "x")
				lay(t, d, nameOf("b", 0), "torn")
				must(t, d.Append("other", []byte("not synced")), d.Append("journal", nil))
				if k == 1 && call(s) == api.OK {
					t.Fatalf("call %d is not refused", i)
				}
				tells(t, s, 1, "a")
				d.Fail(2, keep)
				answers(t, s.Put([]byte("d"), []byte("y")), api.ErrDead)
				d.Boot()
				got[k] = d
			}
			hasFiles(t, got[1], files(got[0])...)
		}
	}
}
