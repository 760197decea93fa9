package shelf_test

import (
	"slices"
	"testing"
)

// P7.4: a shelf without files.
func TestKeysOfNoFiles(t *testing.T) {
	_, s := begun(t, 100)
	tells(t, s, 0)
}

// P7.4: keys in the order of their bytes, whatever the order in which they were put, and that of their names.
func TestKeysRise(t *testing.T) {
	keys := []string{"b", "a", "aa", "", "\x00", "\xff", "ab", "B", "b\x00", "\x7f", "\x80", "\xc3\xa9", "10", "2", long(300), long(299)}
	keys = slices.DeleteFunc(keys, func(k string) bool { return k == "" })
	for range 2 {
		d, s := begun(t, 1<<20)
		for _, key := range keys {
			puts(t, s, key, "data of it")
		}
		sorted := slices.Sorted(slices.Values(keys))
		noWork(t, d, func() { tells(t, s, 0, sorted...) })
		slices.Reverse(keys)
	}
}

// P7.4: many keys.
func TestManyKeys(t *testing.T) {
	m := mixer(3)
	_, s := begun(t, 1<<20)
	var keys []string
	for range 300 {
		key := m.text(1 + m.below(3))
		puts(t, s, key, "")
		keys = append(keys, key)
	}
	slices.Sort(keys)
	tells(t, s, 0, slices.Compact(keys)...)
}

// P7.4: a key that several files have is told once; whose a file is tells the key in it, not its name.
func TestKeysOfSeveralFiles(t *testing.T) {
	_, s := laid(t,
		nameOf("a", 0), written("a", "x"), nameOf("a", 1), written("a", "y"), nameOf("a", 10), written("a", ""),
		nameOf("b", 5), written("c", "x"), nameOf("d", 0), written("a", "z"), nameOf("e", 0), written("b", ""), nameOf("b", 0), written("b", "b"),
		"s-0000000000000000-0", written("nought", "x"), "s-ffffffffffffffff-99999", written("last", "x"), "s-0123456789abcdef-1", written("c", "x"),
	)
	tells(t, s, 0, "a", "b", "c", "last", "nought")
}

// P7.4: the longest key, and the most data.
func TestKeysOfTheLongest(t *testing.T) {
	most := long(mostKey)
	_, s := laid(t, nameOf(most, 0), written(most, long(mostData)), nameOf("a", 0), written("a", long(mostData)), nameOf("b", 0), written(most, ""))
	tells(t, s, 0, "a", most)
}

// P7.4: files that can't be read are counted, each one, and have no keys.
func TestBad(t *testing.T) {
	var l []string
	for what, text := range unreadable() {
		_, s := laid(t, nameOf("a", 0), text)
		tells(t, s, 1)
		_, s = laid(t, nameOf("a", 0), text, nameOf("a", 1), text, nameOf("b", 0), text, nameOf("c", 4), written("c", "x"))
		tells(t, s, 3, "c")
		l = append(l, nameOf(what, 99999), text)
	}
	d, s := laid(t, l...)
	noWork(t, d, func() { tells(t, s, len(l)/2) })
}

// P7.4: of names that are nobody's nothing is told: no key, and nothing bad.
func TestKeysOfNobodysNames(t *testing.T) {
	var l []string
	for i, name := range nobodys("a") {
		l = append(l, name, []string{"torn", written("a", "x"), written(name, "")}[i%3])
	}
	_, s := laid(t, append(l, nameOf("b", 0), written("b", "y"), nameOf("c", 3), "bad")...)
	tells(t, s, 1, "b")
	d, s := begun(t, 1000)
	lay(t, d, "shelf.new", written("n", "x"))
	tells(t, s, 0)
}
