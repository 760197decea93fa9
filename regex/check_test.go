package regex_test

import (
	"math"
	"slices"
	"testing"

	"incunable/api"
	"incunable/regex"
)

// checked is Check's answer. It fails, if the calls that answer its error first answer another, or tell something beside it.
func checked(t *testing.T, l []api.RNode) api.Errno {
	t.Helper()
	x := api.Rex{L: l}
	e := regex.Check(x)
	s, ofPrint := regex.Print(x)
	is, ofNil := regex.Nil(x)
	takes, ofTakes := regex.Takes(x, []byte("a"))
	tooLong, ofTooLong := regex.Takes(x, make([]byte, api.MaxSource+1))
	if e == api.OK {
		if ofNil != api.OK || ofTakes != api.OK || ofTooLong != api.ErrLimit || tooLong {
			t.Fatalf("%v may be: Nil %d, Takes %d, of 8193 bytes %d", l, ofNil, ofTakes, ofTooLong)
		}
		return e
	}
	if ofPrint != e || ofNil != e || ofTakes != e || ofTooLong != e {
		t.Fatalf("%v: Check %d, Print %d, Nil %d, Takes %d, of 8193 bytes %d", l, e, ofPrint, ofNil, ofTakes, ofTooLong)
	}
	if s != "" || is || takes || tooLong {
		t.Fatalf("%v: beside the error %q, %v, %v, %v", l, s, is, takes, tooLong)
	}
	return e
}

func isChecked(t *testing.T, want api.Errno, l ...api.RNode) {
	t.Helper()
	if e := checked(t, l); e != want {
		t.Fatalf("Check(%v) = %d, want %d", l, e, want)
	}
}

func node(kind, a, b int) api.RNode {
	return api.RNode{Kind: kind, A: a, B: b}
}

// longest is a pattern of that many nodes, from 1 on.
func longest(n int) *tree {
	x := one('a')
	for x.size() < n {
		if x.size()+2 <= n {
			x = seq(x, one('b'))
		} else {
			x = star(x)
		}
	}
	return x
}

// P9.1: patterns that may be.
func TestMayBe(t *testing.T) {
	set := api.RNode{Kind: api.RexSet, Set: those('a')}
	isChecked(t, api.OK, node(api.RexNil, 0, 0))
	isChecked(t, api.OK, set)
	isChecked(t, api.OK, node(api.RexSet, 0, 0))
	isChecked(t, api.OK, api.RNode{Kind: api.RexSet, Set: full()})
	for _, kind := range []int{api.RexStar, api.RexPlus} {
		isChecked(t, api.OK, set, node(kind, 0, 0))
		isChecked(t, api.OK, set, node(kind, 0, 0), node(kind, 1, 0))
		isChecked(t, api.OK, node(api.RexNil, 0, 0), node(kind, 0, 0))
	}
	for _, kind := range []int{api.RexSeq, api.RexAlt} {
		isChecked(t, api.OK, set, set, node(kind, 0, 1))
		isChecked(t, api.OK, set, set, node(kind, 0, 1), set, node(kind, 2, 3))
		isChecked(t, api.OK, set, set, set, node(kind, 1, 2), node(kind, 0, 3))
		isChecked(t, api.OK, set, set, node(kind, 0, 1), set, set, node(kind, 3, 4), node(kind, 2, 5))
	}
}

// P9.1: no node.
func TestNoNode(t *testing.T) {
	isChecked(t, api.ErrArg)
	if e := regex.Check(api.Rex{L: []api.RNode{}}); e != api.ErrArg {
		t.Errorf("of a list without nodes: %d", e)
	}
	if e := regex.Check(api.Rex{L: make([]api.RNode, 0, 9)}); e != api.ErrArg {
		t.Errorf("of a list without nodes that has room: %d", e)
	}
}

// P9.1: 256 nodes, and 257: ErrLimit comes ahead of ErrArg.
func TestTooManyNodes(t *testing.T) {
	for n := 1; n <= 300; n++ {
		want := api.OK
		if n > 256 {
			want = api.ErrLimit
		}
		isChecked(t, want, longest(n).nodes(nil)...)
	}
	for _, kind := range []int{-1, 0, 7, api.RexNil, api.RexSeq, api.RexStar} {
		for _, n := range []int{2, 255, 256} {
			isChecked(t, api.ErrArg, slices.Repeat([]api.RNode{node(kind, 5, 300)}, n)...)
		}
		for _, n := range []int{257, 258, 1000} {
			isChecked(t, api.ErrLimit, slices.Repeat([]api.RNode{node(kind, 5, 300)}, n)...)
		}
	}
	isChecked(t, api.ErrLimit, make([]api.RNode, 257)...)
	isChecked(t, api.ErrArg, make([]api.RNode, 256)...)
}

// P9.1: 256 nodes put in all ways: each one ahead of the last may be a part of it, or of another.
func TestMostNodes(t *testing.T) {
	deep, wide := one('a'), one('a')
	for deep.size() < 256 {
		deep = star(deep)
	}
	isChecked(t, api.OK, deep.nodes(nil)...)
	for wide.size() < 255 {
		wide = seq(one('b'), wide)
	}
	isChecked(t, api.OK, wide.nodes(nil)...)
	isChecked(t, api.OK, plus(wide).nodes(nil)...)
	isChecked(t, api.ErrLimit, plus(deep).nodes(nil)...)
	isChecked(t, api.ErrLimit, plus(plus(wide)).nodes(nil)...)
}

// P9.1: kinds below 1 and above 6, alone and as a part.
func TestNoKind(t *testing.T) {
	for _, kind := range []int{0, -1, 7, 8, 100, -5, 258, math.MaxInt, math.MinInt} {
		isChecked(t, api.ErrArg, node(kind, 0, 0))
		isChecked(t, api.ErrArg, node(kind, 0, 0), node(api.RexStar, 0, 0))
		isChecked(t, api.ErrArg, one('a').nodes(nil)[0], node(kind, 0, 0))
		isChecked(t, api.ErrArg, one('a').nodes(nil)[0], one('a').nodes(nil)[0], node(kind, 0, 1))
		isChecked(t, api.ErrArg, node(kind, 0, 0), one('a').nodes(nil)[0], node(api.RexSeq, 0, 1))
	}
}

// P9.1: parts that are no places, that do not stand right ahead, that are the node itself.
func TestPartsNotRightAhead(t *testing.T) {
	a := one('a').nodes(nil)[0]
	for _, kind := range []int{api.RexStar, api.RexPlus} {
		for part := -3; part < 6; part++ {
			isChecked(t, api.ErrArg, node(kind, part, 0))
			if part != 0 {
				isChecked(t, api.ErrArg, a, node(kind, part, 0))
			}
			if part != 1 {
				isChecked(t, api.ErrArg, a, node(api.RexStar, 0, 0), node(kind, part, 0))
			}
		}
	}
	for _, kind := range []int{api.RexSeq, api.RexAlt} {
		for first := -3; first < 6; first++ {
			for second := -3; second < 6; second++ {
				isChecked(t, api.ErrArg, node(kind, first, second))
				isChecked(t, api.ErrArg, a, node(kind, first, second))
				if first != 0 || second != 1 {
					isChecked(t, api.ErrArg, a, a, node(kind, first, second))
				}
				if first != 0 || second != 2 {
					isChecked(t, api.ErrArg, a, a, node(api.RexStar, 1, 0), node(kind, first, second))
				}
				if first != 1 || second != 2 {
					isChecked(t, api.ErrArg, a, node(api.RexStar, 0, 0), a, node(kind, first, second))
				}
				isChecked(t, api.ErrArg, a, node(api.RexStar, 0, 0), node(kind, first, second))
			}
		}
	}
	for _, far := range []int{math.MaxInt, math.MinInt, math.MaxInt32, 1 << 32, 256, -256} {
		isChecked(t, api.ErrArg, a, node(api.RexStar, far, 0))
		isChecked(t, api.ErrArg, a, a, node(api.RexSeq, far, 1))
		isChecked(t, api.ErrArg, a, a, node(api.RexSeq, 0, far))
		isChecked(t, api.ErrArg, a, a, node(api.RexAlt, far, far))
	}
}

// P9.1: A or B that are not 0 where there is no such part.
func TestNoSuchPart(t *testing.T) {
	a := one('a').nodes(nil)[0]
	for _, part := range []int{1, -1, 2, 256, math.MaxInt, math.MinInt} {
		for _, kind := range []int{api.RexNil, api.RexSet} {
			isChecked(t, api.ErrArg, node(kind, part, 0))
			isChecked(t, api.ErrArg, node(kind, 0, part))
			isChecked(t, api.ErrArg, a, node(kind, part, 0), node(api.RexSeq, 0, 1))
			isChecked(t, api.ErrArg, a, node(kind, 0, part), node(api.RexSeq, 0, 1))
		}
		for _, kind := range []int{api.RexStar, api.RexPlus} {
			isChecked(t, api.ErrArg, a, node(kind, 0, part))
			isChecked(t, api.ErrArg, a, node(api.RexStar, 0, 0), node(kind, 1, part))
		}
	}
	// A part that stands there is none of a node that has none.
	isChecked(t, api.ErrArg, a, a, node(api.RexNil, 1, 0))
	isChecked(t, api.ErrArg, a, a, node(api.RexStar, 1, 0))
}

// P9.1: bytes in Set of a node that is no RexSet, each bit alone.
func TestBytesWithoutSet(t *testing.T) {
	a := one('a').nodes(nil)[0]
	for c := range 256 {
		s := those(byte(c))
		isChecked(t, api.OK, api.RNode{Kind: api.RexSet, Set: s})
		isChecked(t, api.ErrArg, api.RNode{Kind: api.RexNil, Set: s})
		isChecked(t, api.ErrArg, a, api.RNode{Kind: api.RexStar, Set: s})
		isChecked(t, api.ErrArg, a, api.RNode{Kind: api.RexPlus, Set: s})
		isChecked(t, api.ErrArg, a, a, api.RNode{Kind: api.RexSeq, Set: s, B: 1})
		isChecked(t, api.ErrArg, a, a, api.RNode{Kind: api.RexAlt, Set: s, B: 1})
		isChecked(t, api.ErrArg, api.RNode{Kind: api.RexNil, Set: s}, node(api.RexStar, 0, 0))
	}
}

// P9.1: nodes left over ahead of the whole.
func TestNodesLeftOver(t *testing.T) {
	a := one('a').nodes(nil)[0]
	isChecked(t, api.ErrArg, a, a)
	isChecked(t, api.ErrArg, a, a, node(api.RexStar, 1, 0))
	isChecked(t, api.ErrArg, a, a, a, node(api.RexSeq, 1, 2))
	isChecked(t, api.ErrArg, a, a, a, node(api.RexAlt, 0, 2))
	isChecked(t, api.ErrArg, a, a, node(api.RexSeq, 0, 1), a)
	isChecked(t, api.ErrArg, slices.Repeat([]api.RNode{a}, 256)...)
	m := mixer(1)
	for range 300 {
		x, y := m.tree(1+m.below(20), m.someSets(12)), m.tree(1+m.below(20), m.someSets(12))
		isChecked(t, api.OK, y.nodes(nil)...)
		isChecked(t, api.ErrArg, y.nodes(x.nodes(nil))...)
	}
}

// trees are all trees of so many nodes, by their numbers of nodes; the sets are these.
func trees(most int, list ...api.Set) [][]*tree {
	l := make([][]*tree, most+1)
	for n := 1; n <= most; n++ {
		if n == 1 {
			l[n] = append(l[n], none())
			for _, s := range list {
				l[n] = append(l[n], set(s))
			}
		}
		for _, a := range l[n-1] {
			l[n] = append(l[n], star(a), plus(a))
		}
		for left := 1; left < n-1; left++ {
			for _, a := range l[left] {
				for _, b := range l[n-1-left] {
					l[n] = append(l[n], seq(a, b), alt(a, b))
				}
			}
		}
	}
	return l
}

// P9.1: of all lists of up to three nodes, those may be that are a tree.
func TestAllShortLists(t *testing.T) {
	type list struct {
		length int
		nodes  [3]api.RNode
	}
	key := func(l []api.RNode) list {
		k := list{length: len(l)}
		copy(k.nodes[:], l)
		return k
	}
	may := map[list]bool{}
	for _, l := range trees(3, those('a'), api.Set{}) {
		for _, x := range l {
			may[key(x.nodes(nil))] = true
		}
	}
	var all []api.RNode
	for kind := 0; kind <= 7; kind++ {
		for a := -1; a <= 2; a++ {
			for b := -1; b <= 2; b++ {
				all = append(all, node(kind, a, b))
			}
		}
	}
	all = append(all, one('a').nodes(nil)[0], api.RNode{Kind: api.RexNil, Set: those('a')}, api.RNode{Kind: api.RexStar, Set: those('a')})
	ask := func(l ...api.RNode) {
		if is := regex.Check(api.Rex{L: l}) == api.OK; is != may[key(l)] {
			t.Fatalf("Check(%v): %v", l, is)
		}
	}
	for _, x := range all {
		ask(x)
		for _, y := range all {
			ask(x, y)
			for _, z := range all {
				ask(x, y, z)
			}
		}
	}
}

// P9.1: of each node of a pattern each number that is told otherwise makes it none; so does a kind that has more parts, or fewer.
func TestOneNumberOtherwise(t *testing.T) {
	m := mixer(2)
	parts := []int{0, 0, 0, 2, 2, 1, 1}
	for range 200 {
		l := m.tree(1+m.below(12), m.someSets(12)).nodes(nil)
		isChecked(t, api.OK, l...)
		for i, was := range l {
			for other := -2; other < len(l)+2; other++ {
				if other != was.A {
					l[i].A = other
					isChecked(t, api.ErrArg, l...)
				}
				l[i] = was
				if other != was.B {
					l[i].B = other
					isChecked(t, api.ErrArg, l...)
				}
				l[i] = was
			}
			for kind := -1; kind <= 8; kind++ {
				if kind < 1 || kind > 6 || parts[kind] != parts[was.Kind] {
					l[i].Kind = kind
					isChecked(t, api.ErrArg, l...)
				}
			}
			l[i] = was
		}
	}
}
