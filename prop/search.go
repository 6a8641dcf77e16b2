package prop

import (
	"slices"

	"signalcabin/machine"
)

// place is where a machine has come to: its state, and behind how many scans in a row an answer has been missing. It begins at the zero place.
type place struct{ state, waits int }

// step is how a place was come to first: from which one, by which input.
type step struct {
	from place
	by   int
}

// search looks for an answer that is missing behind more than most scans in a row, and tells the inputs by which it is; waiting says behind how many it is, by an input. Places are gone on from in the order in which they are met, by the least inputs first; so what is found first is the shortest, and of like ones the least.
func search(m *machine.Machine, most int, waiting func(at place, by int) int) (holds bool, inputs []int) {
	var begin place
	came := map[place]step{begin: {}}
	met := []place{begin}
	for k := 0; k < len(met); k++ {
		at := met[k]
		for by, state := range nextOf(m, at.state) {
			to := place{state, waiting(at, by)}
			if to.waits > most {
				return false, append(path(came, begin, at), by)
			}
			if _, ok := came[to]; !ok {
				came[to] = step{at, by}
				met = append(met, to)
			}
		}
	}
	return true, nil
}

// nextOf is where a state leads to: nowhere, if it is none.
func nextOf(m *machine.Machine, state int) []int {
	if state < 0 || state >= len(m.Next) {
		return nil
	}
	return m.Next[state]
}

// path is the inputs by which a place was come to from where it began.
func path(came map[place]step, begin, to place) []int {
	var inputs []int
	for to != begin {
		inputs = append(inputs, came[to].by)
		to = came[to].from
	}
	slices.Reverse(inputs)
	return inputs
}
