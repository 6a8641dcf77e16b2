package block

import "slices"

// blocks is of each state the number of its block, and of each block its first state. States that tell the same by one input are parted again and again by where they lead to, until nothing is parted any more; each time makes a block more at least, so it ends.
func (t Table) blocks() (of, firsts []int) {
	of, firsts = grouped(len(t.Next), func(a, b int) bool { return slices.Equal(t.Tells[a], t.Tells[b]) })
	for {
		finer, more := grouped(len(t.Next), t.leadAlike(of))
		if len(more) == len(firsts) {
			return of, firsts
		}
		of, firsts = finer, more
	}
}

// leadAlike tells whether two states of one block lead into the same blocks. Their own blocks are held against each other first: then rows are gone through only where a block may be parted.
func (t Table) leadAlike(of []int) func(a, b int) bool {
	into := func(x, y int) bool { return of[x] == of[y] }
	return func(a, b int) bool { return into(a, b) && slices.EqualFunc(t.Next[a], t.Next[b], into) }
}

// grouped puts states together that are alike: of each the number of its group, from 0 on as they come, and of each group its first state.
func grouped(states int, alike func(a, b int) bool) (of, firsts []int) {
	of = make([]int, states)
	for s := range states {
		of[s] = slices.IndexFunc(firsts, func(first int) bool { return alike(first, s) })
		if of[s] < 0 {
			of[s] = len(firsts)
			firsts = append(firsts, s)
		}
	}
	return of, firsts
}

// pair is two states that one comes to by the same inputs: from which pair (its place in the list of those met; -1: they are the first), by which input.
type pair struct{ a, b, from, by int }

// part is the inputs that tell two states apart: nil, if there are none. Pairs are gone on from in the order in which they are met, by the least inputs first; so what is found first is the shortest, and of like ones the least.
func (t Table) part(a, b int) []int {
	isNew := t.newPairs()
	isNew(a, b)
	met := []pair{{a, b, -1, 0}}
	for k := 0; k < len(met); k++ {
		x := met[k]
		for by, tells := range t.Tells[x.a] {
			if tells != t.Tells[x.b][by] {
				return append(path(met, k), by)
			}
		}
		for by, to := range t.Next[x.a] {
			if other := t.Next[x.b][by]; to != other && isNew(to, other) {
				met = append(met, pair{to, other, k, by})
			}
		}
	}
	return nil
}

// newPairs tells of two states, whichever is the first, whether they are asked for the first time.
func (t Table) newPairs() func(a, b int) bool {
	states := len(t.Next)
	asked := make([]bool, states*states)
	return func(a, b int) bool {
		n := min(a, b)*states + max(a, b)
		if asked[n] {
			return false
		}
		asked[n] = true
		return true
	}
}

// path is the inputs by which a pair was met.
func path(met []pair, k int) []int {
	var inputs []int
	for ; met[k].from >= 0; k = met[k].from {
		inputs = append(inputs, met[k].by)
	}
	slices.Reverse(inputs)
	return inputs
}
