package dfa_test

import (
	"math"
	"slices"
	"testing"

	"incunable/api"
	"incunable/dfa"
)

// plain is a machine of so many states and classes, which goes nowhere.
func plain(states, classes int) (d api.Dfa) {
	for range states {
		d.Next = append(d.Next, slices.Repeat([]int{-1}, classes))
		d.Rule = append(d.Rule, -1)
	}
	return d
}

func mayBe(t *testing.T, d api.Dfa) {
	t.Helper()
	if e := dfa.Check(d); e != api.OK {
		t.Fatalf("Check: %d", e)
	}
}

// P11.1: a machine has from 1 to 512 states.
func TestHowManyStates(t *testing.T) {
	for _, n := range []int{1, 2, 511, 512} {
		mayBe(t, plain(n, 1))
	}
	isRefused(t, api.Dfa{}, api.ErrArg)
	isRefused(t, api.Dfa{Next: [][]int{}, Rule: []int{}}, api.ErrArg)
	for _, n := range []int{513, 514, 100000} {
		isRefused(t, plain(n, 1), api.ErrLimit)
	}
}

// P11.1: Rule has as many elements as Next; either may not be too long alone.
func TestAsManyRulesAsStates(t *testing.T) {
	for _, c := range []struct {
		next, rule int
		want       api.Errno
	}{
		{0, 1, api.ErrArg},
		{1, 0, api.ErrArg},
		{2, 1, api.ErrArg},
		{2, 3, api.ErrArg},
		{512, 511, api.ErrArg},
		{511, 512, api.ErrArg},
		{512, 0, api.ErrArg},
		{0, 512, api.ErrArg},
		{512, 513, api.ErrLimit},
		{513, 512, api.ErrLimit},
		{0, 513, api.ErrLimit},
		{513, 0, api.ErrLimit},
		{1, 513, api.ErrLimit},
	} {
		isRefused(t, api.Dfa{Next: plain(c.next, 1).Next, Rule: plain(c.rule, 1).Rule}, c.want)
	}
}

// P11.1: a machine has from 1 to 256 classes.
func TestHowManyClasses(t *testing.T) {
	for _, n := range []int{1, 2, 255, 256} {
		mayBe(t, plain(1, n))
		mayBe(t, plain(3, n))
	}
	isRefused(t, plain(1, 0), api.ErrArg)
	isRefused(t, plain(3, 0), api.ErrArg)
	for _, n := range []int{257, 258, 100000} {
		isRefused(t, plain(1, n), api.ErrLimit)
		isRefused(t, plain(3, n), api.ErrLimit)
		for at := range 3 {
			d := plain(3, 1)
			d.Next[at] = slices.Repeat([]int{-1}, n)
			isRefused(t, d, api.ErrLimit)
		}
	}
	mayBe(t, plain(512, 256))
}

// P11.1: all elements of Next are of one length.
func TestAsManyClassesInEachState(t *testing.T) {
	for _, classes := range []int{1, 2, 3, 256} {
		for at := range 4 {
			for _, n := range []int{0, 1, 2, 3, 4, 255, 256} {
				d := plain(4, classes)
				d.Next[at] = slices.Repeat([]int{-1}, n)
				if n == classes {
					mayBe(t, d)
				} else {
					isRefused(t, d, api.ErrArg)
				}
			}
		}
	}
}

// P11.1: each byte's class is one; there may be classes of no byte.
func TestClassesOfBytes(t *testing.T) {
	for _, classes := range []int{1, 2, 7, 255, 256} {
		for _, c := range []int{0, 1, 64, 'a', 254, 255} {
			d := plain(2, classes)
			d.Class[c] = classes - 1
			mayBe(t, d)
			for _, wrong := range []int{-1, classes, classes + 1, 257, math.MinInt, math.MaxInt} {
				d.Class[c] = wrong
				isRefused(t, d, api.ErrArg)
			}
		}
	}
	d := plain(1, 256)
	d.Class = ownClasses()
	mayBe(t, d)
}

// P11.1: a machine goes to states that there are, or nowhere.
func TestStatesBehindClasses(t *testing.T) {
	for _, states := range []int{1, 2, 5, 512} {
		for _, from := range []int{0, states / 2, states - 1} {
			for class := range 3 {
				d := plain(states, 3)
				for _, to := range []int{-1, 0, states / 2, states - 1} {
					d.Next[from][class] = to
					mayBe(t, d)
				}
				for _, wrong := range []int{-2, states, states + 1, 513, math.MinInt, math.MaxInt} {
					d.Next[from][class] = wrong
					isRefused(t, d, api.ErrArg)
				}
			}
		}
	}
}

// P11.1: rules are from -1 to 63.
func TestRulesOfStates(t *testing.T) {
	for _, states := range []int{1, 3, 512} {
		for _, at := range []int{0, states / 2, states - 1} {
			d := plain(states, 2)
			for _, rule := range []int{-1, 0, 1, 62, 63} {
				d.Rule[at] = rule
				mayBe(t, d)
			}
			for _, wrong := range []int{-2, 64, 65, 512, math.MinInt, math.MaxInt} {
				d.Rule[at] = wrong
				isRefused(t, d, api.ErrArg)
			}
		}
	}
}

// P11.1: ErrLimit is told ahead of ErrArg.
func TestLimitsFirst(t *testing.T) {
	tooMany := slices.Repeat([]int{-7}, 257)
	for i, d := range []api.Dfa{
		{Next: make([][]int, 513)},
		{Rule: slices.Repeat([]int{-7}, 513)},
		{Next: [][]int{tooMany}},
		{Next: [][]int{{}, {9}, tooMany}, Rule: []int{99}},
		{Next: [][]int{{-7}, tooMany}, Rule: []int{-1, -1}},
		{Next: [][]int{tooMany, {0}}, Rule: []int{-1, -1}},
		{Next: [][]int{{5}}, Rule: make([]int, 513)},
		{Next: append(plain(511, 0).Next, tooMany), Rule: []int{0}},
	} {
		isRefused(t, d, api.ErrLimit)
		d.Class[i] = -1
		isRefused(t, d, api.ErrLimit)
	}
}

// P11.1: of machines of few states and classes, told otherwise: each number, in all ways.
func TestAllSmallMachines(t *testing.T) {
	numbers := []int{-2, -1, 0, 1, 2}
	for _, class := range numbers {
		for _, a := range numbers {
			for _, b := range numbers {
				for _, rule := range append([]int{63, 64}, numbers...) {
					d := api.Dfa{Next: [][]int{{a, 0}, {1, b}}, Rule: []int{-1, rule}}
					d.Class['x'] = class
					if (class == 0 || class == 1) && a != -2 && a != 2 && b != -2 && b != 2 && rule != -2 && rule != 64 {
						mayBe(t, d)
					} else {
						isRefused(t, d, api.ErrArg)
					}
				}
			}
		}
	}
}
