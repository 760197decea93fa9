package gram_test

import (
	"math"
	"slices"
	"testing"

	"incunable/api"
	"incunable/gram"
)

// isSame fails unless Same tells that of two files, whichever is handed in first.
func isSame(t *testing.T, a, b api.File, want bool) {
	t.Helper()
	if is, back := gram.Same(a, b), gram.Same(b, a); is != want || back != want {
		t.Fatalf("Same = %t, and the other way round %t, of %s and %s", is, back, told(a), told(b))
	}
}

// changes are what may be done to a whole file, each leaving another one: all its fields, elements, and lists' lengths.
func changes() (l []func(f *api.File)) {
	for _, at := range slices.Concat(names(), namesOrNone(), paths(), patterns()) {
		for _, s := range []string{"z", "Z", "zz", "\x00", "\xff"} {
			l = append(l, func(f *api.File) { *at(f) = s })
		}
		l = append(l,
			func(f *api.File) { *at(f) += " " },
			func(f *api.File) { *at(f) += "\x00" },
			func(f *api.File) { *at(f) = " " + *at(f) },
		)
	}
	for i := range 3 {
		l = append(l, changesAt(i)...)
	}
	return append(l, changesOfLists()...)
}

// changesAt are those of elements at a place.
func changesAt(i int) (l []func(f *api.File)) {
	for _, kind := range []int{0, 4, -1, math.MaxInt, math.MinInt, 1<<32 + 1, 1<<32 + 2, 1<<32 + 3, 257} {
		l = append(l, func(f *api.File) { f.Precs[i].Kind = kind })
	}
	return append(l,
		func(f *api.File) { f.Terms[i].Skip = !f.Terms[i].Skip },
		func(f *api.File) { f.Precs[i].Kind = f.Precs[i].Kind%3 + 1 },
		func(f *api.File) { f.Precs[i].Kind = (f.Precs[i].Kind+1)%3 + 1 },
		func(f *api.File) { f.Precs[i].Names = nil },
		func(f *api.File) { f.Precs[i].Names = append(f.Precs[i].Names, "more") },
		func(f *api.File) { f.Precs[i].Names = append([]string{"more"}, f.Precs[i].Names...) },
		func(f *api.File) { f.Rules[i].Alts = nil },
		func(f *api.File) { f.Rules[i].Alts = append(f.Rules[i].Alts, wayOf()) },
		func(f *api.File) { f.Rules[i].Alts = append([]api.Alt{wayOf("more")}, f.Rules[i].Alts...) },
		func(f *api.File) { f.Rules[0].Alts[i].Syms = append(f.Rules[0].Alts[i].Syms, "more") },
		func(f *api.File) { f.Rules[0].Alts[i].Syms = append(f.Rules[0].Alts[i].Syms, "") },
		func(f *api.File) { f.Rules[0].Alts[i].Syms = append([]string{"more"}, f.Rules[0].Alts[i].Syms...) },
		func(f *api.File) { f.Imports = slices.Delete(f.Imports, i, i+1) },
		func(f *api.File) { f.Terms = slices.Delete(f.Terms, i, i+1) },
		func(f *api.File) { f.Precs = slices.Delete(f.Precs, i, i+1) },
		func(f *api.File) { f.Rules = slices.Delete(f.Rules, i, i+1) },
		func(f *api.File) { f.Rules[0].Alts = slices.Delete(f.Rules[0].Alts, i, i+1) },
		func(f *api.File) { f.Precs[0].Names = slices.Delete(f.Precs[0].Names, i, i+1) },
		func(f *api.File) { f.Rules[0].Alts[0].Syms = slices.Delete(f.Rules[0].Alts[0].Syms, i, i+1) },
		func(f *api.File) { f.Imports = slices.Insert(f.Imports, i, "more") },
		func(f *api.File) { f.Terms = slices.Insert(f.Terms, i, api.Term{}) },
		func(f *api.File) { f.Precs = slices.Insert(f.Precs, i, api.Prec{}) },
		func(f *api.File) { f.Rules = slices.Insert(f.Rules, i, api.Rule{}) },
	)
}

// changesOfLists are those of lists as they are, whole.
func changesOfLists() []func(f *api.File) {
	return []func(f *api.File){
		func(f *api.File) { *f = api.File{} },
		func(f *api.File) { f.Start = "" },
		func(f *api.File) { f.Imports = nil },
		func(f *api.File) { f.Terms = nil },
		func(f *api.File) { f.Precs = nil },
		func(f *api.File) { f.Rules = nil },
		func(f *api.File) { f.Imports = append(f.Imports, "") },
		func(f *api.File) { f.Imports = append(f.Imports, f.Imports[2]) },
		func(f *api.File) { f.Terms = append(f.Terms, api.Term{}) },
		func(f *api.File) { f.Terms = append(f.Terms, f.Terms[2]) },
		func(f *api.File) { f.Precs = append(f.Precs, api.Prec{}) },
		func(f *api.File) { f.Precs = append(f.Precs, f.Precs[2]) },
		func(f *api.File) { f.Rules = append(f.Rules, api.Rule{}) },
		func(f *api.File) { f.Rules = append(f.Rules, f.Rules[2]) },
		func(f *api.File) { slices.Reverse(f.Imports) },
		func(f *api.File) { slices.Reverse(f.Terms) },
		func(f *api.File) { slices.Reverse(f.Precs) },
		func(f *api.File) { slices.Reverse(f.Rules) },
		func(f *api.File) { slices.Reverse(f.Precs[0].Names) },
		func(f *api.File) { slices.Reverse(f.Rules[0].Alts) },
		func(f *api.File) { slices.Reverse(f.Rules[0].Alts[0].Syms) },
		func(f *api.File) { slices.Reverse(f.Rules[2].Alts) },
		func(f *api.File) { f.Terms[0].Name, f.Terms[0].Pattern = f.Terms[0].Pattern, f.Terms[0].Name },
		func(f *api.File) { f.Rules[1].Alts[0] = wayOf("q") },
		func(f *api.File) { f.Rules[1].Alts[0] = wayOf("prec", "q") },
		func(f *api.File) { f.Rules[0].Alts[0].Syms = []string{"e n", "m"} },
		func(f *api.File) { f.Rules[2].Alts = []api.Alt{boundWay("r", "e", "f", "g", "n")} },
		func(f *api.File) { f.Rules[0].Alts, f.Rules[1].Alts = f.Rules[1].Alts, f.Rules[0].Alts },
		func(f *api.File) { f.Precs[0].Names, f.Precs[1].Names = []string{"p", "q"}, []string{"r", "u"} },
	}
}

// P15.2: files that differ in one thing are not the same; each is the same as itself, and as another one that was made alike.
func TestSame(t *testing.T) {
	isSame(t, whole(), whole(), true)
	isSame(t, api.File{}, api.File{}, true)
	l := changes()
	for i := range l {
		a, b := whole(), whole()
		l[i](&a)
		isSame(t, a, whole(), false)
		l[i](&b)
		isSame(t, a, b, true)
	}
}

// P15.2: of each two changed files: they are the same just if all their fields are.
func TestSameOfEachTwo(t *testing.T) {
	l := changes()
	files := make([]api.File, len(l))
	for i := range l {
		f := whole()
		l[i](&f)
		files[i] = plain(f)
	}
	same := 0
	for i, a := range files {
		for _, b := range files[:i] {
			want := alike(a, b)
			isSame(t, a, b, want)
			if want {
				same++
			}
		}
	}
	if same < 3 {
		t.Errorf("%d pairs are the same", same)
	}
}

// P15.2: a list of nothing is as good as one that is not there, wherever it stands, and also where a file may not be.
func TestSameOfNoLists(t *testing.T) {
	none := []api.File{
		{},
		{Imports: []string{}, Terms: []api.Term{}, Precs: []api.Prec{}, Rules: []api.Rule{}},
		{Imports: make([]string, 0, 9)},
		{Rules: make([]api.Rule, 0, 9)},
	}
	for _, a := range none {
		for _, b := range none {
			isSame(t, a, b, true)
		}
	}
	isSame(t, precFile(1), precFile(1, []string{}...), true)
	isSame(t, precFile(1, nil...), api.File{Precs: []api.Prec{{Kind: 1, Names: []string{}}}}, true)
	isSame(t, ruleFile("e"), api.File{Rules: []api.Rule{{Name: "e", Alts: []api.Alt{}}}}, true)
	isSame(t, ruleFile("e", wayOf()), ruleFile("e", api.Alt{Syms: []string{}}), true)
	isSame(t, ruleFile("e", wayOf("a"), wayOf()), ruleFile("e", wayOf("a"), api.Alt{Syms: make([]string, 0, 3)}), true)
	isSame(t, ruleFile("e"), ruleFile("e", wayOf()), false)
	isSame(t, ruleFile("e", wayOf()), ruleFile("e", wayOf("")), false)
	isSame(t, precFile(1), precFile(1, ""), false)
	isSame(t, api.File{}, api.File{Imports: []string{""}}, false)
	isSame(t, whole(), plain(whole()), true)
}

// P15.2: the same however their lists are kept: of one memory, of others, with spare room.
func TestSameWhereverListsAre(t *testing.T) {
	f := whole()
	isSame(t, f, f, true)
	g := whole()
	g.Imports = append(make([]string, 0, 50), g.Imports...)
	g.Rules[0].Alts[0].Syms = append(make([]string, 0, 50), g.Rules[0].Alts[0].Syms...)
	_ = append(g.Imports, "spare")
	isSame(t, f, g, true)
	all := []string{"a", "b", "c"}
	isSame(t, api.File{Imports: all[:2]}, api.File{Imports: []string{"a", "b"}}, true)
	isSame(t, api.File{Imports: all[:2]}, api.File{Imports: all}, false)
	isSame(t, api.File{Imports: all[:2]}, api.File{Imports: all[1:]}, false)
}

// P15.2: files of all sorts.
func TestSameOfAllSorts(t *testing.T) {
	m := mixer(8)
	l := changes()
	unlike := 0
	for range 3000 {
		f, g := m.file(), m.file()
		isSame(t, f, plain(f), true)
		isSame(t, f, g, alike(f, g))
		if !alike(f, g) {
			unlike++
		}
		a, b := whole(), whole()
		for range 1 + m.below(2) {
			changeOne(l[m.below(len(l))], &a)
			changeOne(l[m.below(len(l))], &b)
		}
		isSame(t, a, b, alike(a, b))
	}
	if unlike < 2000 {
		t.Errorf("%d pairs were unlike", unlike)
	}
}

// changeOne does a change, if the file still has what it is of.
func changeOne(change func(f *api.File), f *api.File) {
	defer func() { _ = recover() }()
	change(f)
}
