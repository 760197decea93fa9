package least

import "incunable/api"

// nowhere is told where a machine goes no further, and of a state in which no rule ends.
const nowhere = -1

// allBytes is how many bytes there are.
const allBytes = 256

// dead is the part of nowhere, and of all states that are dead: these tell what nowhere does.
const dead = 0

// A look is the rule of a state, and the parts to which it goes behind each byte.
type look [1 + allBytes]int16

// A parting has the states of a machine in parts, alike ones in one.
type parting struct {
	api.Dfa
	parts []int // of nowhere, and then of each state
}

// partingOf parts the states of a machine that may be, round by round, till one tells no more apart than that ahead.
func partingOf(d api.Dfa) *parting {
	p := &parting{Dfa: d, parts: make([]int, 1+len(d.Next))}
	for many := 1; ; {
		parts, now := p.parted()
		if now == many {
			return p
		}
		p.parts, many = parts, now
	}
}

// parted are the states' parts by their looks, and how many there are. Nowhere is looked at first, so that its part is dead in each round.
func (p *parting) parted() ([]int, int) {
	numbers := map[look]int{}
	parts := make([]int, len(p.parts))
	for i := range parts {
		l := p.lookOf(i - 1)
		part, is := numbers[l]
		if !is {
			part = len(numbers)
			numbers[l] = part
		}
		parts[i] = part
	}
	return parts, len(numbers)
}

// lookOf is the look of a state, or of nowhere, from which one never comes away.
func (p *parting) lookOf(s int) (l look) {
	l[0] = nowhere
	if s != nowhere {
		l[0] = int16(p.Rule[s])
	}
	for c := range allBytes {
		l[1+c] = int16(p.partOf(p.behind(s, c)))
	}
	return l
}

// partOf is the part of a state, or of nowhere.
func (p *parting) partOf(s int) int {
	return p.parts[s+1]
}

// behind is where a state, or nowhere, goes behind a byte.
func (p *parting) behind(s, c int) int {
	if s == nowhere {
		return nowhere
	}
	return p.Next[s][p.Class[c]]
}
