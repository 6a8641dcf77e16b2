package block

import (
	"slices"
	"strconv"
	"testing"

	"signalcabin/api"
	"signalcabin/expr"
	"signalcabin/ladder"
	"signalcabin/scan"
)

// Held against what the document says, of drawn tables and programs

// draw gives numbers that look drawn, the same each time.
type draw uint64

func (d *draw) below(n int) int {
	*d = *d*6364136223846793005 + 1442695040888963407
	return int(uint64(*d>>33) % uint64(n))
}

// table has up to so many states and inputs (an input at least). Mostly nothing is told, so that states are often alike, or parted late.
func (d *draw) table(states, inputs int) Table {
	n, many := 1+d.below(states), 1+d.below(inputs)
	t := sized(n, many)
	seldom := 1 + d.below(6)
	for s := range n {
		if s > 0 && d.below(3) == 0 {
			like := d.below(s)
			copy(t.Next[s], t.Next[like])
			copy(t.Tells[s], t.Tells[like])
			continue
		}
		for i := range many {
			t.Next[s][i] = d.below(n)
			if d.below(seldom) == 0 {
				t.Tells[s][i] = d.below(3) - 1
			}
		}
	}
	return t
}

// word is up to so many inputs.
func (d *draw) word(inputs, most int) []int {
	l := []int{}
	for range d.below(most + 1) {
		l = append(l, d.below(inputs))
	}
	return l
}

func (d *draw) expression(names []ladder.Name, deep int) expr.Expr {
	name := names[d.below(len(names))].Name
	if deep == 0 {
		return []expr.Expr{expr.Const(d.below(2) == 0), expr.Bit(name), expr.Bit(name), expr.Bit(name), expr.Rise(name), expr.Fall(name)}[d.below(6)]
	}
	x, y := d.expression(names, deep-1), d.expression(names, deep-1)
	return []expr.Expr{x, expr.Not{Of: x}, expr.And{x, y}, expr.Or{x, y}}[d.below(4)]
}

// program has an input, and up to so many names of any kinds besides, in any order: at most 2 inputs.
func (d *draw) program(most int) ladder.Program {
	p := ladder.Program{Names: []ladder.Name{{Name: "a", Kind: ladder.Input}}}
	inputs := 1
	for i := range 1 + d.below(most) {
		n := ladder.Name{Name: "n" + strconv.Itoa(i), Kind: ladder.Input + d.below(4)}
		if n.Kind == ladder.Input {
			inputs++
			if inputs > 2 {
				n.Kind = ladder.Coil
			}
		}
		if n.Kind == ladder.Timer || n.Kind == ladder.Counter {
			n.Count = 1 + d.below(3)
		}
		p.Names = append(p.Names, n)
	}
	kinds := [][]int{ladder.Input: nil, ladder.Coil: {ladder.Sets, ladder.Set, ladder.Reset}, ladder.Timer: {ladder.Run}, ladder.Counter: {ladder.Count, ladder.Zero}}
	for range 1 + d.below(9) {
		n := p.Names[d.below(len(p.Names))]
		if l := kinds[n.Kind]; l != nil {
			p.Rungs = append(p.Rungs, ladder.Rung{Kind: l[d.below(len(l))], Name: n.Name, If: d.expression(p.Names, d.below(3))})
		}
	}
	return p
}

// goes is what is told of inputs from a state, one behind the other.
func goes(t Table, s int, in []int) []int {
	var tells []int
	for _, i := range in {
		tells = append(tells, t.Tells[s][i])
		s = t.Next[s][i]
	}
	return tells
}

// words are all lists of so many inputs, the less first.
func words(inputs, long int) [][]int {
	all := [][]int{{}}
	for range long {
		var longer [][]int
		for _, w := range all {
			for i := range inputs {
				longer = append(longer, append(slices.Clone(w), i))
			}
		}
		all = longer
	}
	return all
}

// parts goes through all lists of inputs, the shorter first, and of as many the less: the first one of which two states tell something unlike. Lists of as many inputs as there are states are enough, since states that these do not part are parted by none.
func parts(t Table, all [][]int, a, b int) []int {
	for _, w := range all {
		if !slices.Equal(goes(t, a, w), goes(t, b, w)) {
			return w
		}
	}
	return nil
}

func TestDrawn(t *testing.T) {
	d := draw(93)
	told := make([]int, 9)
	for range 3000 {
		u := d.table(6, 2)
		n := len(u.Next)
		var all [][]int
		for long := range n + 1 {
			all = append(all, words(len(u.Next[0]), long)...)
		}
		blocks, err := Blocks(u)
		if err != nil || len(blocks) != n {
			t.Fatalf("%v: Blocks %v, %s", u, blocks, wrong(err))
		}
		next := 0
		for a := range n {
			first := slices.IndexFunc(blocks[:a], func(b int) bool { return b == blocks[a] })
			if first < 0 {
				if blocks[a] != next {
					t.Fatalf("%v: Blocks %v", u, blocks)
				}
				next++
			}
			for b := range n {
				want := parts(u, all, a, b)
				l, err := Part(u, a, b)
				if want == nil && (l != nil || err != error(api.ErrNone)) || want != nil && (err != nil || !slices.Equal(l, want)) {
					t.Fatalf("%v: Part of %d and %d is %v, %s, not %v", u, a, b, l, wrong(err), want)
				}
				if (want == nil) != (blocks[a] == blocks[b]) {
					t.Fatalf("%v: Blocks %v; %d and %d: %v", u, blocks, a, b, want)
				}
				if a != b {
					told[len(want)]++
				}
			}
		}
	}
	for long := range 5 {
		if told[long] < 10 {
			t.Errorf("the draw is too poor: %v", told)
		}
	}
}

// The table of blocks tells of each block what its states tell, and no two of it are alike.
func TestDrawnLeast(t *testing.T) {
	d := draw(94)
	for range 2000 {
		u := d.table(12, 4)
		blocks, err := Blocks(u)
		if err != nil {
			t.Fatalf("%v: Blocks %s", u, wrong(err))
		}
		least, err := Least(u)
		if err != nil || Check(least) != nil || len(least.Next) != slices.Max(blocks)+1 {
			t.Fatalf("%v: Least %v, %s", u, least, wrong(err))
		}
		for s, b := range blocks {
			for i := range u.Next[s] {
				if least.Next[b][i] != blocks[u.Next[s][i]] || least.Tells[b][i] != u.Tells[s][i] {
					t.Fatalf("%v: Least %v, of state %d by %d", u, least, s, i)
				}
			}
			in := d.word(len(u.Next[0]), 30)
			one, err := Tell(u, s, in)
			other, wrongToo := Tell(least, b, in)
			if err != nil || wrongToo != nil || !slices.Equal(one, other) || !slices.Equal(one, goes(u, s, in)) {
				t.Fatalf("%v: from %d %v tell %v, %v", u, s, in, one, other)
			}
		}
		for b := range least.Next {
			for c := range b {
				l, err := Part(least, b, c)
				if err != nil || slices.Equal(goes(least, b, l), goes(least, c, l)) {
					t.Fatalf("%v: %d and %d are alike, %v, %s", least, b, c, l, wrong(err))
				}
			}
		}
		if again, err := Least(least); err != nil || !same(again, least) {
			t.Fatalf("%v: Least again %v, %s", least, again, wrong(err))
		}
	}
}

// Of drawn programs each scan is done again.
func TestDrawnOf(t *testing.T) {
	d := draw(95)
	for range 300 {
		p := d.program(4)
		m := madeOf(t, p)
		var names []string
		for range d.below(13) {
			names = append(names, p.Names[d.below(len(p.Names))].Name)
		}
		u, err := Of(m, names)
		if m.States > 500 {
			t.Fatalf("the draw has too many states: %d", m.States)
		}
		if err != nil || len(u.Next) != m.States || len(u.Tells) != m.States || Check(u) != nil {
			t.Fatalf("%q, %v: %v, %s", ladder.Text(p), names, u, wrong(err))
		}
		for s := range m.States {
			for i := range m.Inputs {
				is, err := scan.Step(p, m.State(s), m.Input(i))
				if err != nil {
					t.Fatalf("Step: %s", wrong(err))
				}
				want := 0
				for k, name := range names {
					if is.Is[p.Number(name)] {
						want += 1 << k
					}
				}
				if u.Next[s][i] != m.Number(is) || u.Tells[s][i] != want {
					t.Fatalf("%q, %v: from %d by %d to %d, telling %d, not %d", ladder.Text(p), names, s, i, u.Next[s][i], u.Tells[s][i], want)
				}
			}
		}
	}
}
