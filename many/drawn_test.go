package many

import (
	"slices"
	"strconv"
	"strings"
	"testing"

	"signalcabin/expr"
	"signalcabin/ladder"
	"signalcabin/scan"
)

// Held against what the document says, of drawn programs

// draw gives numbers that look drawn, the same each time.
type draw uint64

func (d *draw) below(n int) int {
	*d = *d*6364136223846793005 + 1442695040888963407
	return int(uint64(*d>>33) % uint64(n))
}

func (d *draw) expression(names []string, deep int) string {
	name := names[d.below(len(names))]
	if deep == 0 {
		return []string{"0", "1", "^" + name, "~" + name, name, name, name, "!" + name}[d.below(8)]
	}
	x, y := d.expression(names, deep-1), d.expression(names, deep-1)
	return []string{x, "!(" + x + ")", "(" + x + ") & (" + y + ")", x + " | " + y}[d.below(4)]
}

// task is of one or two inputs, and has few states.
func (d *draw) task() Task {
	names := []string{"a", "m", "n", "t", "c", "b"}[:5+d.below(2)]
	lines := []string{"input a", "coil m", "coil n", "timer t " + strconv.Itoa(1+d.below(2)), "counter c " + strconv.Itoa(1+d.below(2)), "input b"}[:len(names)]
	heads := []string{"m", "n", "set m", "reset m", "set n", "reset n", "run t", "count c", "zero c"}
	for range 1 + d.below(8) {
		lines = append(lines, heads[d.below(len(heads))]+" = "+d.expression(names, d.below(3)))
	}
	return Task{strings.Join(lines, "\n"), d.expression(names, 1+d.below(3))}
}

// tries is how many scans are tried.
const tries = 4

// failing is the first list of inputs, of the shortest ones, behind whose last scan it doesn't hold. All lists are played, one by one: no machine is made.
func failing(t *testing.T, p ladder.Program, e expr.Expr) []int {
	t.Helper()
	many := 1 << len(p.Kind(ladder.Input))
	lists := [][]int{nil}
	for range tries {
		var longer [][]int
		for _, l := range lists {
			for i := range many {
				longer = append(longer, append(slices.Clone(l), i))
			}
		}
		lists = longer
		for _, l := range lists {
			if !holdsBehind(t, p, e, l) {
				return l
			}
		}
	}
	return nil
}

func holdsBehind(t *testing.T, p ladder.Program, e expr.Expr, inputs []int) bool {
	t.Helper()
	var in [][]bool
	for _, i := range inputs {
		var one []bool
		for k := range p.Kind(ladder.Input) {
			one = append(one, i>>k&1 == 1)
		}
		in = append(in, one)
	}
	states, err := scan.Play(p, in)
	if err != nil {
		t.Fatalf("Play: %s", wrong(err))
	}
	now, last := states[len(states)-1].Is, make([]bool, len(p.Names))
	if len(states) > 1 {
		last = slices.Clone(states[len(states)-2].Is)
	}
	// An input that no rung asks the edges of is no part of a state: it was not true.
	for _, n := range p.Kind(ladder.Input) {
		last[n] = last[n] && slices.Contains(p.Edges(), n)
	}
	return expr.Eval(e, func(name string) bool { return now[p.Number(name)] }, func(name string) bool { return last[p.Number(name)] })
}

// statesOf is how many there are, by the kinds of names.
func statesOf(p ladder.Program) int {
	many := 1
	for n, name := range p.Names {
		if name.Kind != ladder.Input || slices.Contains(p.Edges(), n) {
			many *= max(name.Count, 1) + 1
		}
	}
	return many
}

func TestDrawnTasks(t *testing.T) {
	d := draw(5)
	held, fails := 0, 0
	for range 12 {
		var l []Task
		for range 25 {
			l = append(l, d.task())
		}
		answers, err := All(l, 1+d.below(16))
		if err != nil || len(answers) != len(l) {
			t.Fatalf("%d answers, %s", len(answers), wrong(err))
		}
		for k, a := range answers {
			p, err := ladder.Parse(l[k].Program)
			e, err2 := expr.Parse(l[k].Holds)
			if err != nil || err2 != nil || a.Err != nil {
				t.Fatalf("%q: %s, %s, %s", l[k], wrong(err), wrong(err2), wrong(a.Err))
			}
			if a.States != statesOf(p) || a.Holds != (len(a.Path) == 0) {
				t.Errorf("%q: %d states, %t, %v", l[k], a.States, a.Holds, a.Path)
			}
			want := failing(t, p, e)
			if want == nil {
				held++
				if !a.Holds && len(a.Path) <= tries {
					t.Errorf("%q: %v, but behind %d scans it holds", l[k], a.Path, tries)
				}
				continue
			}
			fails++
			if !slices.Equal(a.Path, want) {
				t.Errorf("%q: %v, not %v", l[k], a.Path, want)
			}
		}
	}
	if held < 30 || fails < 100 {
		t.Errorf("%d held, %d not: too few of one", held, fails)
	}
}
