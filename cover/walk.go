package cover

import "slices"

// walker is on its way through a machine. Of the ways from one state it always goes the one by the least input first, so how many of them were gone tells which ones.
type walker struct {
	next [][]int
	gone []int
	at   int
}

// step is how a state is met: from which one (its number among those that were met), by which input.
type step struct{ state, from, by int }

// hasLeft says whether a state has a way that was not gone yet.
func (w *walker) hasLeft(s int) bool { return w.gone[s] < len(w.next[s]) }

// nearest is the inputs, as few as can be, of like ones the least, the last of which goes a way that was not gone yet (none: there is no such way). States are gone on from in the order in which they are met, by the least inputs first; so the first one that has such a way is the nearest, by the least inputs.
func (w *walker) nearest() []int {
	// A machine's Next may have been written into: behind a way to no state there is nothing. No other place need ask, since only states are gone on from all of whose ways were gone.
	if w.at < 0 || w.at >= len(w.next) {
		return nil
	}
	seen := make([]bool, len(w.next))
	seen[w.at] = true
	met := []step{{state: w.at}}
	for k := 0; k < len(met); k++ {
		s := met[k].state
		if w.hasLeft(s) {
			return append(path(met, k), w.gone[s])
		}
		for by, to := range w.next[s] {
			if !seen[to] {
				seen[to] = true
				met = append(met, step{to, k, by})
			}
		}
	}
	return nil
}

// path is the inputs by which the k-th state that was met is come to from the first one.
func path(met []step, k int) []int {
	var inputs []int
	for k > 0 {
		inputs = append(inputs, met[k].by)
		k = met[k].from
	}
	slices.Reverse(inputs)
	return inputs
}

// follow goes by what nearest told: all but the last one are ways that were gone already.
func (w *walker) follow(inputs []int) {
	for k, i := range inputs {
		if k == len(inputs)-1 {
			w.gone[w.at]++
		}
		w.at = w.next[w.at][i]
	}
}
