package induct

import (
	"strconv"
	"testing"

	"signalcabin/expr"
	"signalcabin/ladder"
	"signalcabin/machine"
	"signalcabin/scan"
)

// Held against what the document says, of drawn programs

// draw gives numbers that look drawn, the same each time.
type draw uint64

func (d *draw) below(n int) int {
	*d = *d*6364136223846793005 + 1442695040888963407
	return int(uint64(*d>>33) % uint64(n))
}

func (d *draw) expression(names []ladder.Name, deep int) expr.Expr {
	name := names[d.below(len(names))].Name
	if deep == 0 {
		return []expr.Expr{expr.Const(d.below(2) == 0), expr.Bit(name), expr.Bit(name), expr.Bit(name), expr.Rise(name), expr.Fall(name)}[d.below(6)]
	}
	x, y := d.expression(names, deep-1), d.expression(names, deep-1)
	return []expr.Expr{x, expr.Not{Of: x}, expr.And{x, y}, expr.Or{x, y}}[d.below(4)]
}

// claim is an expression that is often so for a while, and often not told at once: mostly it says that the last name is not true, or something else is.
func (d *draw) claim(names []ladder.Name) expr.Expr {
	e := d.expression(names, d.below(4))
	if d.below(4) == 0 {
		return e
	}
	last := expr.Not{Of: expr.Bit(names[len(names)-1].Name)}
	return []expr.Expr{last, expr.Or{last, e}, expr.Not{Of: expr.And{e, expr.Bit(names[len(names)-1].Name)}}}[d.below(3)]
}

// program has an input, and up to so many names of any kinds besides, in any order: at most 2 inputs.
func (d *draw) program(most int) ladder.Program {
	p := ladder.Program{Names: []ladder.Name{{Name: "a", Kind: ladder.Input}}}
	inputs := 1
	for i := range 1 + d.below(most) {
		n := ladder.Name{Name: "n" + strconv.Itoa(i), Kind: ladder.Input + d.below(4)}
		if n.Kind == ladder.Input {
			inputs++
			if inputs > 2 {
				n.Kind = ladder.Coil
			}
		}
		if n.Kind == ladder.Timer || n.Kind == ladder.Counter {
			n.Count = 1 + d.below(3)
		}
		p.Names = append(p.Names, n)
	}
	kinds := [][]int{ladder.Input: nil, ladder.Coil: {ladder.Sets, ladder.Set, ladder.Reset}, ladder.Timer: {ladder.Run}, ladder.Counter: {ladder.Count, ladder.Zero}}
	for range 1 + d.below(9) {
		n := p.Names[d.below(len(p.Names))]
		if l := kinds[n.Kind]; l != nil {
			p.Rungs = append(p.Rungs, ladder.Rung{Kind: l[d.below(len(l))], Name: n.Name, If: d.expression(p.Names, d.below(3))})
		}
	}
	return p
}

// asked is what is asked: does it hold, behind a scan, and where does that lead to?
type asked struct {
	m     *machine.Machine
	holds [][]bool
	next  [][]int
}

// askedOf asks the scans themselves, and a table of names.
func askedOf(t *testing.T, m *machine.Machine, e expr.Expr) asked {
	t.Helper()
	x := asked{m, make([][]bool, m.States), make([][]int, m.States)}
	for s := range m.States {
		was := m.State(s)
		for i := range m.Inputs {
			is, err := scan.Step(m.Program, was, m.Input(i))
			if err != nil {
				t.Fatalf("Step: %s", wrong(err))
			}
			table := map[string][2]bool{}
			for k, n := range m.Program.Names {
				table[n.Name] = [2]bool{is.Is[k], was.Is[k]}
			}
			holds := expr.Eval(e, func(name string) bool { return table[name][0] }, func(name string) bool { return table[name][1] })
			x.holds[s], x.next[s] = append(x.holds[s], holds), append(x.next[s], m.Number(is))
		}
	}
	return x
}

// breaks goes through the lists of so many inputs from a state, the less first: the first one behind the last of which it doesn't hold, but behind all ahead of it.
func (x asked) breaks(s, many int) []int {
	for i, holds := range x.holds[s] {
		if many == 1 && !holds {
			return []int{i}
		}
		if many > 1 && holds {
			if l := x.breaks(x.next[s][i], many-1); l != nil {
				return append([]int{i}, l...)
			}
		}
	}
	return nil
}

// anywhere says whether there is a state from which so many break it.
func (x asked) anywhere(many int) bool {
	for s := range x.m.States {
		if x.breaks(s, many) != nil {
			return true
		}
	}
	return false
}

// wanted is what the document says, word by word.
func (x asked) wanted(most int) Verdict {
	for k := 1; k <= most; k++ {
		for many := 1; many <= k; many++ {
			if l := x.breaks(0, many); l != nil {
				return Verdict{Refuted, k, l}
			}
		}
		if !x.anywhere(k + 1) {
			return Verdict{Proved, k, nil}
		}
	}
	return Verdict{Open, most, nil}
}

func TestDrawn(t *testing.T) {
	d := draw(83)
	told := map[[2]int]int{}
	for range 3000 {
		p := d.program(5)
		m, e, most := madeOf(t, p), d.claim(p.Names), 1+d.below(6)
		v, err := Check(m, e, most)
		if want := askedOf(t, m, e).wanted(most); err != nil || !same(v, want) {
			t.Fatalf("%q, %s, %d: %v, %s, not %v", ladder.Text(p), expr.Text(e), most, v, wrong(err), want)
		}
		told[[2]int{v.Code, min(v.K, 3)}]++
	}
	for code := Proved; code <= Open; code++ {
		for k := 1; k <= 3; k++ {
			if told[[2]int{code, k}] == 0 {
				t.Errorf("the draw is too poor: %v", told)
			}
		}
	}
}
