package prop

import (
	"slices"
	"strconv"
	"testing"

	"signalcabin/expr"
	"signalcabin/ladder"
	"signalcabin/machine"
	"signalcabin/reach"
	"signalcabin/scan"
)

// Held against what the document says, of drawn programs

// draw gives numbers that look drawn, the same each time.
type draw uint64

func (d *draw) below(n int) int {
	*d = *d*6364136223846793005 + 1442695040888963407
	return int(uint64(*d>>33) % uint64(n))
}

func (d *draw) expression(names []ladder.Name, deep int) expr.Expr {
	name := names[d.below(len(names))].Name
	if deep == 0 {
		return []expr.Expr{expr.Const(d.below(2) == 0), expr.Bit(name), expr.Bit(name), expr.Bit(name), expr.Rise(name), expr.Fall(name)}[d.below(6)]
	}
	x, y := d.expression(names, deep-1), d.expression(names, deep-1)
	return []expr.Expr{x, expr.Not{Of: x}, expr.And{x, y}, expr.Or{x, y}}[d.below(4)]
}

// program has an input, and up to so many names of any kinds besides, in any order: at most 2 inputs.
func (d *draw) program(most int) ladder.Program {
	p := ladder.Program{Names: []ladder.Name{{Name: "a", Kind: ladder.Input}}}
	inputs := 1
	for i := range 1 + d.below(most) {
		n := ladder.Name{Name: "n" + strconv.Itoa(i), Kind: ladder.Input + d.below(4)}
		if n.Kind == ladder.Input {
			inputs++
			if inputs > 2 {
				n.Kind = ladder.Coil
			}
		}
		if n.Kind == ladder.Timer || n.Kind == ladder.Counter {
			n.Count = 1 + d.below(3)
		}
		p.Names = append(p.Names, n)
	}
	kinds := [][]int{ladder.Input: nil, ladder.Coil: {ladder.Sets, ladder.Set, ladder.Reset}, ladder.Timer: {ladder.Run}, ladder.Counter: {ladder.Count, ladder.Zero}}
	for range 1 + d.below(9) {
		n := p.Names[d.below(len(p.Names))]
		if l := kinds[n.Kind]; l != nil {
			p.Rungs = append(p.Rungs, ladder.Rung{Kind: l[d.below(len(l))], Name: n.Name, If: d.expression(p.Names, d.below(3))})
		}
	}
	return p
}

// wantedGood asks the scans themselves, and a table of names.
func wantedGood(t *testing.T, m *machine.Machine, e expr.Expr) [][]bool {
	t.Helper()
	good := make([][]bool, m.States)
	for s := range m.States {
		was := m.State(s)
		for i := range m.Inputs {
			is, err := scan.Step(m.Program, was, m.Input(i))
			if err != nil {
				t.Fatalf("Step: %s", wrong(err))
			}
			table := map[string][2]bool{}
			for k, n := range m.Program.Names {
				table[n.Name] = [2]bool{is.Is[k], was.Is[k]}
			}
			good[s] = append(good[s], expr.Eval(e, func(name string) bool { return table[name][0] }, func(name string) bool { return table[name][1] }))
		}
	}
	return good
}

func TestDrawnGood(t *testing.T) {
	d := draw(12)
	for range 300 {
		p := d.program(4)
		m, e := madeOf(t, p), d.expression(p.Names, d.below(4))
		good, err := Good(m, e)
		if want := wantedGood(t, m, e); err != nil || shown(good) != shown(want) {
			t.Fatalf("%q, %s: %s, %s, not %s", ladder.Text(p), expr.Text(e), shown(good), wrong(err), shown(want))
		}
	}
}

// asked is what is asked: whenever the one is so behind a scan, is the other behind it, or one of the next n?
type asked struct {
	m             *machine.Machine
	asks, answers [][]bool
	n             int
}

// shows says whether inputs show that it is not so.
func (x asked) shows(inputs []int) bool {
	first := len(inputs) - 1 - x.n
	if first < 0 {
		return false
	}
	s, is := 0, true
	for k, i := range inputs {
		is = is && (k != first || x.asks[s][i]) && (k < first || !x.answers[s][i])
		s = x.m.Next[s][i]
	}
	return is
}

// least goes through all lists of inputs up to a length: the shorter ones first, of like ones the less first.
func (x asked) least(longest int) []int {
	lists := [][]int{{}}
	for range longest {
		var longer [][]int
		for _, l := range lists {
			for i := range x.m.Inputs {
				longer = append(longer, append(slices.Clone(l), i))
			}
		}
		lists = longer
		if k := slices.IndexFunc(lists, x.shows); k >= 0 {
			return lists[k]
		}
	}
	return nil
}

// silent says whether, by a scan and some more that may come, no answer comes.
func (x asked) silent(s, i, more int) bool {
	if x.answers[s][i] {
		return false
	}
	for next := range x.m.Inputs {
		if more == 0 || x.silent(x.m.Next[s][i], next, more-1) {
			return true
		}
	}
	return false
}

// fewest is how many inputs are enough to show that it is not so (0: it is so).
func (x asked) fewest(t *testing.T) int {
	t.Helper()
	far, err := reach.Far(x.m)
	if err != nil {
		t.Fatalf("Far: %s", wrong(err))
	}
	few := 0
	for s, scans := range far {
		for i := range x.m.Inputs {
			if all := scans + 1 + x.n; scans >= 0 && (few == 0 || all < few) && x.asks[s][i] && x.silent(s, i, x.n) {
				few = all
			}
		}
	}
	return few
}

// check holds an answer against all lists of inputs that are not too long, and against how few of them are enough.
func (x asked) check(t *testing.T, what string, holds bool, inputs []int, err error) {
	t.Helper()
	few := x.fewest(t)
	if err != nil || holds != (few == 0) || len(inputs) != few || !holds && !x.shows(inputs) {
		t.Fatalf("%s: %t, %v, %s; %d are enough", what, holds, inputs, wrong(err), few)
	}
	longest := 6
	if x.m.Inputs <= 2 {
		longest = 11
	}
	if want := x.least(min(longest, max(few, x.n+2))); want != nil && !slices.Equal(inputs, want) || want == nil && few > 0 && few <= longest {
		t.Fatalf("%s: %v, not %v", what, inputs, want)
	}
}

func TestDrawnChecks(t *testing.T) {
	d := draw(13)
	held, longest := 0, 0
	for range 600 {
		p := d.program(4)
		m, e := madeOf(t, p), d.expression(p.Names, d.below(4))
		always := wantedGood(t, m, expr.Const(true))
		holds, inputs, err := Check(m, e)
		asked{m, always, wantedGood(t, m, e), 0}.check(t, ladder.Text(p)+expr.Text(e), holds, inputs, err)
		if holds {
			held++
		}
		longest = max(longest, len(inputs))
	}
	if held < 50 || longest < 3 {
		t.Errorf("the draw is too poor: %d hold, %d inputs at most", held, longest)
	}
}

func TestDrawnAnswers(t *testing.T) {
	d := draw(14)
	held, longest := 0, 0
	for range 800 {
		p := d.program(4)
		m, a, b, n := madeOf(t, p), d.expression(p.Names, d.below(3)), d.expression(p.Names, d.below(3)), d.below(5)
		holds, inputs, err := Answers(m, a, b, n)
		asked{m, wantedGood(t, m, a), wantedGood(t, m, b), n}.check(t, ladder.Text(p)+expr.Text(a)+"; "+expr.Text(b)+" "+strconv.Itoa(n), holds, inputs, err)
		if holds {
			held++
		}
		longest = max(longest, len(inputs)-n)
	}
	if held < 100 || longest < 4 {
		t.Errorf("the draw is too poor: %d hold, %d inputs at most", held, longest)
	}
}

// What holds behind each scan is what is answered at once, whatever comes.
func TestCheckIsAnswersAtOnce(t *testing.T) {
	d := draw(15)
	for range 300 {
		p := d.program(5)
		m, e := madeOf(t, p), d.expression(p.Names, d.below(4))
		holds, inputs, err := Check(m, e)
		same, as, also := Answers(m, expr.Const(true), e, 0)
		if err != nil || also != nil || holds != same || !slices.Equal(inputs, as) {
			t.Fatalf("%q, %s: %t, %v, and %t, %v", ladder.Text(p), expr.Text(e), holds, inputs, same, as)
		}
	}
}
