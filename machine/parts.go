package machine

import (
	"slices"

	"signalcabin/api"
	"signalcabin/ladder"
	"signalcabin/scan"
)

// part is what a state's number has of a name.
type part struct {
	of      int // how many there are; a name without a part has a part of 1, which adds nothing
	counted bool
}

// parts has one for each name of a program.
type parts []part

func partsOf(p ladder.Program) parts {
	edges := p.Edges()
	l := make(parts, len(p.Names))
	for k, n := range p.Names {
		switch n.Kind {
		case ladder.Timer, ladder.Counter:
			l[k] = part{of: n.Count + 1, counted: true}
		case ladder.Coil:
			l[k].of = 2
		default:
			l[k].of = 1
			if slices.Contains(edges, k) {
				l[k].of = 2
			}
		}
	}
	return l
}

// states is how many there are, unless there are too many. It gives up as soon as that is seen, so that an int holds it.
func (l parts) states() (int, bool) {
	n := 1
	for _, x := range l {
		n *= x.of
		if n > api.MaxStates {
			return 0, false
		}
	}
	return n, true
}

// number is that of a state that has as many of both as there are parts.
func (l parts) number(s scan.State) int {
	n := 0
	for k, x := range slices.Backward(l) {
		n = n*x.of + x.told(s.Is[k], s.Count[k])
	}
	return n
}

func (x part) told(is bool, count int) int {
	switch {
	case x.counted:
		return count
	case is && x.of > 1:
		return 1
	}
	return 0
}

func (l parts) state(n int) scan.State {
	s := scan.State{Is: make([]bool, len(l)), Count: make([]int, len(l))}
	for k, x := range l {
		told := n % x.of
		n /= x.of
		// The last one of a part is true: of 2 it is 1, of a timer or counter its Count.
		s.Is[k] = x.of > 1 && told == x.of-1
		if x.counted {
			s.Count[k] = told
		}
	}
	return s
}
