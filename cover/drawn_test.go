package cover

import (
	"slices"
	"strconv"
	"testing"

	"signalcabin/expr"
	"signalcabin/ladder"
	"signalcabin/machine"
)

// Held against what the document says, of drawn expressions and programs

// draw gives numbers that look drawn, the same each time.
type draw uint64

func (d *draw) below(n int) int {
	*d = *d*6364136223846793005 + 1442695040888963407
	return int(uint64(*d>>33) % uint64(n))
}

// expression has edges, too, where they are asked for.
func (d *draw) expression(names []string, deep int, edges bool) expr.Expr {
	name := names[d.below(len(names))]
	if deep == 0 {
		l := []expr.Expr{expr.Const(d.below(2) == 0), expr.Bit(name), expr.Bit(name), expr.Bit(name), expr.Bit(name), expr.Bit(name), expr.Rise(name), expr.Fall(name)}
		if !edges {
			l = l[:6]
		}
		return l[d.below(len(l))]
	}
	x, y := d.expression(names, deep-1, edges), d.expression(names, deep-1, edges)
	return []expr.Expr{x, expr.Not{Of: x}, expr.And{x, y}, expr.Or{x, y}, expr.And{x, expr.Or{y, expr.Not{Of: x}}}, expr.Or{expr.And{x, expr.Not{Of: y}}, expr.And{y, expr.Not{Of: x}}}}[d.below(6)]
}

// program has an input, and up to so many names of any kinds besides: at most 2 inputs.
func (d *draw) program(most int) ladder.Program {
	p := ladder.Program{Names: []ladder.Name{{Name: "a", Kind: ladder.Input}}}
	names := []string{"a"}
	for i := range 1 + d.below(most) {
		n := ladder.Name{Name: "n" + strconv.Itoa(i), Kind: ladder.Input + d.below(4)}
		if n.Kind == ladder.Input && len(p.Kind(ladder.Input)) == 2 {
			n.Kind = ladder.Coil
		}
		if n.Kind == ladder.Timer || n.Kind == ladder.Counter {
			n.Count = 1 + d.below(3)
		}
		p.Names = append(p.Names, n)
		names = append(names, n.Name)
	}
	kinds := [][]int{ladder.Input: nil, ladder.Coil: {ladder.Sets, ladder.Set, ladder.Reset}, ladder.Timer: {ladder.Run}, ladder.Counter: {ladder.Count, ladder.Zero}}
	for range 1 + d.below(9) {
		n := p.Names[d.below(len(p.Names))]
		if l := kinds[n.Kind]; l != nil {
			p.Rungs = append(p.Rungs, ladder.Rung{Kind: l[d.below(len(l))], Name: n.Name, If: d.expression(names, d.below(3), true)})
		}
	}
	return p
}

// worth is what an expression says, by a table of names. It is not Eval's: an expression is worked out from what is within.
func worth(e expr.Expr, is map[string]int) int {
	switch x := e.(type) {
	case expr.Bit:
		return is[string(x)]
	case expr.Not:
		return 1 - worth(x.Of, is)
	case expr.And:
		n := 1
		for _, part := range x {
			n *= worth(part, is)
		}
		return n
	case expr.Or:
		n := 0
		for _, part := range x {
			n = max(n, worth(part, is))
		}
		return n
	}
	if e == expr.Expr(expr.Const(true)) {
		return 1
	}
	return 0
}

// wantedPairs goes through all pairs of values, and keeps those that are as they should be; of each name the least one.
func wantedPairs(e expr.Expr) []Pair {
	names := expr.Names(e)
	says := make([]int, 1<<len(names))
	for values := range says {
		is := map[string]int{}
		for k, name := range names {
			is[name] = values >> k & 1
		}
		says[values] = worth(e, is)
	}
	var pairs []Pair
	for k, name := range names {
		var found []Pair
		for on := range says {
			for off := range says {
				if off^on == 1<<k && on>>k&1 == 1 && says[on] != says[off] {
					found = append(found, Pair{name, uint(off), uint(on)})
				}
			}
		}
		if len(found) > 0 {
			pairs = append(pairs, slices.MinFunc(found, func(x, y Pair) int { return int(x.Off) - int(y.Off) }))
		}
	}
	return pairs
}

func TestDrawnPairs(t *testing.T) {
	d := draw(31)
	names := []string{"q", "b", "z9", "a_", "a", "k", "aa", "z"}
	left, most := 0, 0
	for range 1500 {
		e := d.expression(names[:1+d.below(len(names))], d.below(6), false)
		got, err := Pairs(e)
		if want := wantedPairs(e); err != nil || !slices.Equal(got, want) {
			t.Fatalf("%s: %s, %s, not %s", expr.Text(e), shown(got), wrong(err), shown(want))
		}
		left += len(expr.Names(e)) - len(got)
		most = max(most, len(got))
	}
	if left < 100 || most < 6 {
		t.Errorf("the draw is too poor: %d names are left out, %d pairs at most", left, most)
	}
}

// way is one from a state by an input.
type way struct{ state, by int }

// goneBy is the ways that inputs go from state 0 on.
func goneBy(t *testing.T, m *machine.Machine, inputs []int) map[way]int {
	t.Helper()
	gone, s := map[way]int{}, 0
	for _, i := range inputs {
		if i < 0 || i >= m.Inputs {
			t.Fatalf("there is no input %d", i)
		}
		gone[way{s, i}]++
		s = m.Next[s][i]
	}
	return gone
}

// legs cuts inputs behind each that goes a way for the first time.
func legs(m *machine.Machine, inputs []int) [][]int {
	var l [][]int
	gone, s, first := map[way]int{}, 0, 0
	for k, i := range inputs {
		if gone[way{s, i}] == 0 {
			l = append(l, inputs[first:k+1])
			first = k + 1
		}
		gone[way{s, i}]++
		s = m.Next[s][i]
	}
	return l
}

// endsFresh says whether the last one of inputs goes a way that was not gone, from a state on.
func endsFresh(m *machine.Machine, gone map[way]int, s int, inputs []int) bool {
	fresh := false
	for _, i := range inputs {
		fresh = gone[way{s, i}] == 0
		s = m.Next[s][i]
	}
	return fresh
}

// nearestOfAll goes through all lists of inputs: the shorter ones first, of like ones the less first. One that goes a way for the first time need not be longer than there are states.
func nearestOfAll(m *machine.Machine, gone map[way]int, s, longest int) []int {
	lists := [][]int{{}}
	for range longest {
		var longer [][]int
		for _, l := range lists {
			for i := range m.Inputs {
				longer = append(longer, append(slices.Clone(l), i))
			}
		}
		lists = longer
		if k := slices.IndexFunc(lists, func(l []int) bool { return endsFresh(m, gone, s, l) }); k >= 0 {
			return lists[k]
		}
	}
	return nil
}

// nearestBackwards works out of each state how far the nearest way is that was not gone, and then goes, by the least inputs, always one nearer.
func nearestBackwards(m *machine.Machine, gone map[way]int, s, longest int) []int {
	none := longest + 1
	far := slices.Repeat([]int{none}, m.States)
	for range longest {
		for s := range far {
			for i := range m.Inputs {
				if gone[way{s, i}] == 0 {
					far[s] = 1
				}
				far[s] = min(far[s], far[m.Next[s][i]]+1)
			}
		}
	}
	if far[s] >= none {
		return nil
	}
	var inputs []int
	for ; far[s] > 1; s = m.Next[s][inputs[len(inputs)-1]] {
		inputs = append(inputs, slices.IndexFunc(m.Next[s], func(to int) bool { return far[to] == far[s]-1 }))
	}
	for i := range m.Inputs {
		if gone[way{s, i}] == 0 {
			return append(inputs, i)
		}
	}
	return nil
}

// wantedTour goes again and again by what nearest tells, and counts the ways.
func wantedTour(t *testing.T, m *machine.Machine, nearest func(m *machine.Machine, gone map[way]int, s, longest int) []int) ([]int, bool) {
	t.Helper()
	states := comeTo(t, m)
	gone, s := map[way]int{}, 0
	var inputs []int
	for {
		leg := nearest(m, gone, s, len(states))
		if leg == nil {
			return inputs, len(gone) == len(states)*m.Inputs
		}
		for _, i := range leg {
			gone[way{s, i}]++
			s = m.Next[s][i]
		}
		inputs = append(inputs, leg...)
	}
}

func TestDrawnToursOfFewStates(t *testing.T) {
	d := draw(32)
	asked, whole, longest := 0, 0, 0
	for range 3000 {
		p := d.program(3)
		m := madeOf(t, p)
		if n := len(comeTo(t, m)); n < 2 || n > 5 {
			continue
		}
		got, all, err := Tour(m)
		if want, wantAll := wantedTour(t, m, nearestOfAll); err != nil || all != wantAll || !slices.Equal(got, want) {
			t.Fatalf("%q: %v, %t, %s, not %v, %t", ladder.Text(p), got, all, wrong(err), want, wantAll)
		}
		asked++
		if all {
			whole++
		}
		for _, leg := range legs(m, got) {
			longest = max(longest, len(leg))
		}
	}
	if whole < 100 || asked-whole < 100 || longest < 4 {
		t.Errorf("the draw is too poor: of %d whole %d, %d inputs at most", asked, whole, longest)
	}
}

func TestDrawnToursOfMoreStates(t *testing.T) {
	d := draw(33)
	asked, whole, longest := 0, 0, 0
	for range 5000 {
		p := d.program(5)
		m := madeOf(t, p)
		if n := len(comeTo(t, m)); n < 6 || n > 60 || m.States > 300 {
			continue
		}
		got, all, err := Tour(m)
		if want, wantAll := wantedTour(t, m, nearestBackwards); err != nil || all != wantAll || !slices.Equal(got, want) {
			t.Fatalf("%q: %v, %t, %s, not %v, %t", ladder.Text(p), got, all, wrong(err), want, wantAll)
		}
		asked++
		if all {
			whole++
		}
		for _, leg := range legs(m, got) {
			longest = max(longest, len(leg))
		}
	}
	if whole < 50 || asked-whole < 50 || longest < 6 {
		t.Errorf("the draw is too poor: of %d whole %d, %d inputs at most", asked, whole, longest)
	}
}

// A tour that says so has gone each way; one that doesn't can't go on to a new one from where it ends.
func TestDrawnToursEndWhereNothingIsLeft(t *testing.T) {
	d := draw(34)
	for range 800 {
		p := d.program(5)
		m := madeOf(t, p)
		states := comeTo(t, m)
		if len(states) > 100 {
			continue
		}
		got, all, err := Tour(m)
		gone, end := goneBy(t, m, got), 0
		for _, i := range got {
			end = m.Next[end][i]
		}
		if err != nil || all != (len(gone) == len(states)*m.Inputs) {
			t.Fatalf("%q: %t, %s, %d ways", ladder.Text(p), all, wrong(err), len(gone))
		}
		met := map[int]int{end: 1}
		for work := []int{end}; len(work) > 0; work = work[1:] {
			for i, to := range m.Next[work[0]] {
				if gone[way{work[0], i}] == 0 {
					t.Fatalf("%q: from %d by %d was not gone", ladder.Text(p), work[0], i)
				}
				if met[to] == 0 {
					met[to] = 1
					work = append(work, to)
				}
			}
		}
	}
}
