package reach

import (
	"signalcabin/machine"
)

// step is how a state is come to first: in how many scans (-1: never), the last of them from which state, by which input.
type step struct{ far, from, by int }

// walk goes from state 0 on, the nearest ones first. Those that are as near are gone on from in the order of their least inputs, so that the first way into a state is its least one, too.
func walk(m *machine.Machine) []step {
	steps := make([]step, len(m.Next))
	for s := range steps {
		steps[s].far = -1
	}
	if len(steps) == 0 {
		return steps
	}
	steps[0].far = 0
	met := []int{0}
	for k := 0; k < len(met); k++ {
		from := met[k]
		for by, s := range m.Next[from] {
			if s >= 0 && s < len(steps) && steps[s].far < 0 {
				steps[s] = step{steps[from].far + 1, from, by}
				met = append(met, s)
			}
		}
	}
	return steps
}

// grow puts states into a list as long as one enters. Whether one does can only change when a state is put in to which it leads, so only these are asked.
func grow(m *machine.Machine, in []bool, enters func(s int) bool) {
	before := ahead(m)
	var fresh []int
	for s, is := range in {
		if is {
			fresh = append(fresh, s)
		}
	}
	for len(fresh) > 0 {
		last := fresh[len(fresh)-1]
		fresh = fresh[:len(fresh)-1]
		for _, s := range before[last] {
			if !in[s] && enters(s) {
				in[s] = true
				fresh = append(fresh, s)
			}
		}
	}
}

// ahead is of each state those that lead to it, each once.
func ahead(m *machine.Machine) [][]int {
	l := make([][]int, len(m.Next))
	for from, next := range m.Next {
		for _, s := range next {
			if s < 0 || s >= len(l) {
				continue
			}
			if n := len(l[s]); n == 0 || l[s][n-1] != from {
				l[s] = append(l[s], from)
			}
		}
	}
	return l
}
