package machine

import (
	"errors"
	"math"
	"reflect"
	"slices"
	"strconv"
	"strings"
	"testing"

	"signalcabin/api"
	"signalcabin/expr"
	"signalcabin/ladder"
	"signalcabin/scan"
)

// wrong writes an error: its number, and its place, if it has one.
func wrong(err error) string {
	s := strconv.Itoa(int(api.Tell(err)))
	var at *api.At
	if errors.As(err, &at) {
		s += " at " + strconv.Itoa(at.Place)
	}
	return s
}

func parsed(t *testing.T, lines ...string) ladder.Program {
	t.Helper()
	p, err := ladder.Parse(strings.Join(lines, "\n"))
	if err != nil {
		t.Fatalf("Parse of %q: %s", lines, wrong(err))
	}
	return p
}

func made(t *testing.T, lines ...string) *Machine {
	t.Helper()
	return madeOf(t, parsed(t, lines...))
}

func madeOf(t *testing.T, p ladder.Program) *Machine {
	t.Helper()
	m, err := Of(p)
	if err != nil || m == nil {
		t.Fatalf("Of %q: %s, %s", ladder.Text(p), size(m), wrong(err))
	}
	return m
}

// bits reads a list of bools: a 0 or 1 for each.
func bits(text string) []bool {
	l := make([]bool, len(text))
	for i := range l {
		l[i] = text[i] == '1'
	}
	return l
}

func shownBits(l []bool) string {
	text := ""
	for _, is := range l {
		if is {
			text += "1"
		} else {
			text += "0"
		}
	}
	return text
}

// shown writes a state: a 0 or 1 for each name, then how far each is.
func shown(s scan.State) string {
	text := shownBits(s.Is)
	for _, n := range s.Count {
		text += " " + strconv.Itoa(n)
	}
	return text
}

// size writes how many states and inputs a machine has: the whole is too long to be read.
func size(m *Machine) string {
	if m == nil {
		return "none"
	}
	return strconv.Itoa(m.States) + " states, " + strconv.Itoa(m.Inputs) + " inputs"
}

func isZero(s scan.State) bool { return s.Is == nil && s.Count == nil }

// asked says whether the edges of a name are asked for, by the text of the rungs alone.
func asked(p ladder.Program, name string) bool {
	for _, r := range p.Rungs {
		for _, word := range strings.FieldsFunc(expr.Text(r.If), func(c rune) bool { return strings.ContainsRune(" &|!()", c) }) {
			if word == "^"+name || word == "~"+name {
				return true
			}
		}
	}
	return false
}

// toldParts is what the document tells of parts, from name k on: how many states these are, and the number of a state.
func toldParts(p ladder.Program, s scan.State, k int) (states, number int) {
	if k == len(p.Names) {
		return 1, 0
	}
	states, number = toldParts(p, s, k+1)
	n := p.Names[k]
	switch {
	case n.Kind == ladder.Timer || n.Kind == ladder.Counter:
		return (n.Count + 1) * states, s.Count[k] + (n.Count+1)*number
	case n.Kind == ladder.Input && !asked(p, n.Name):
		return states, number
	case s.Is[k]:
		return 2 * states, 1 + 2*number
	}
	return 2 * states, 2 * number
}

// allStates are those of a program, each with its number: one name after the other is put in all its ways.
func allStates(p ladder.Program) map[int]scan.State {
	l := []scan.State{scan.Start(p)}
	for k, n := range p.Names {
		ways := 2
		if n.Kind == ladder.Timer || n.Kind == ladder.Counter {
			ways = n.Count + 1
		} else if n.Kind == ladder.Input && !asked(p, n.Name) {
			ways = 1
		}
		var next []scan.State
		for _, s := range l {
			for way := range ways {
				one := scan.State{Is: slices.Clone(s.Is), Count: slices.Clone(s.Count)}
				if n.Count > 0 {
					one.Count[k], one.Is[k] = way, way == n.Count
				} else {
					one.Is[k] = way == 1
				}
				next = append(next, one)
			}
		}
		l = next
	}
	all := map[int]scan.State{}
	for _, s := range l {
		_, n := toldParts(p, s, 0)
		all[n] = s
	}
	return all
}

// checkWhole holds a machine against its program: each state, each input, each scan.
func checkWhole(t *testing.T, p ladder.Program) {
	t.Helper()
	m, text := madeOf(t, p), ladder.Text(p)
	all := allStates(p)
	states, _ := toldParts(p, scan.Start(p), 0)
	inputs := p.Kind(ladder.Input)
	if len(all) != states || m.States != states || m.Inputs != 1<<len(inputs) || len(m.Next) != states {
		t.Fatalf("%q: %d states, %d inputs, Next of %d, not %d", text, m.States, m.Inputs, len(m.Next), states)
	}
	if !reflect.DeepEqual(m.Program, p) {
		t.Fatalf("%q: Program is %v", text, m.Program)
	}
	for n := range states {
		s := all[n]
		if got := m.State(n); !reflect.DeepEqual(got, s) {
			t.Fatalf("%q: State of %d: %s, not %s", text, n, shown(got), shown(s))
		}
		if got := m.Number(s); got != n {
			t.Fatalf("%q: Number of %s: %d, not %d", text, shown(s), got, n)
		}
		if len(m.Next[n]) != m.Inputs {
			t.Fatalf("%q: Next of %d has %d", text, n, len(m.Next[n]))
		}
		for i := range m.Inputs {
			checkScan(t, m, s, n, i)
		}
	}
}

func checkScan(t *testing.T, m *Machine, s scan.State, n, i int) {
	t.Helper()
	var in []bool
	for k := range m.Program.Kind(ladder.Input) {
		in = append(in, i/(1<<k)%2 == 1)
	}
	if got := m.Input(i); !slices.Equal(got, in) {
		t.Fatalf("Input of %d: %s, not %s", i, shownBits(got), shownBits(in))
	}
	to, err := scan.Step(m.Program, s, in)
	if err != nil {
		t.Fatalf("Step: %s", wrong(err))
	}
	if _, want := toldParts(m.Program, to, 0); m.Next[n][i] != want {
		t.Fatalf("%q: Next of %d by %d: %d, not %d", ladder.Text(m.Program), n, i, m.Next[n][i], want)
	}
	if got, err := m.Sees(n, i); err != nil || !slices.Equal(got, to.Is) {
		t.Fatalf("%q: Sees of %d by %d: %s, %s, not %s", ladder.Text(m.Program), n, i, shownBits(got), wrong(err), shownBits(to.Is))
	}
}

// 4.1: parts, States, Inputs, Next

func TestStatesInputsNext(t *testing.T) {
	for _, c := range []struct {
		what, program  string
		states, inputs int
		next           [][]int
	}{
		{"nothing", "", 1, 1, [][]int{{0}}},
		{"the document's example", "input a\ncoil m\nset m = a", 2, 2, [][]int{{0, 1}, {1, 1}}},
		{"an input without edges has no part", "input a", 1, 2, [][]int{{0, 0}}},
		{"an input that rises", "input a\ncoil m\nm = ^a", 4, 2, [][]int{{0, 3}, {0, 1}, {0, 3}, {0, 1}}},
		{"an input that falls", "input a\ncoil m\nm = ~a", 4, 2, [][]int{{0, 1}, {2, 1}, {0, 1}, {2, 1}}},
		{"the first name counts the least", "coil m\ninput a\nm = ^a", 4, 2, [][]int{{0, 3}, {0, 3}, {0, 2}, {0, 2}}},
		{"one input of two has a part", "input a\ninput b\ncoil m\nm = ^b & a", 4, 4, [][]int{{0, 0, 1, 3}, {0, 0, 1, 1}, {0, 0, 1, 3}, {0, 0, 1, 1}}},
		{"edges of a coil are in its part", "coil m\ncoil k\nm = !m\nk = ^m", 4, 1, [][]int{{3}, {0}, {3}, {0}}},
		{"a coil without rungs", "coil m", 2, 1, [][]int{{0}, {1}}},
		{"a timer", "input a\ntimer t 2\nrun t = a", 3, 2, [][]int{{0, 1}, {0, 2}, {0, 2}}},
		{"a timer without rungs", "timer t 3", 4, 1, [][]int{{0}, {1}, {2}, {3}}},
		{"edges of a timer are in its part", "timer t 1\ncoil m\nrun t = !t\nm = ~t", 4, 1, [][]int{{1}, {2}, {1}, {2}}},
		{"a counter", "input a\ncounter c 3\ncount c = a\nzero c = c & !a", 4, 2, [][]int{{0, 1}, {1, 2}, {2, 3}, {0, 3}}},
		{"a timer ahead of a coil", "timer t 2\ncoil m\nrun t = 1\nm = t", 6, 1, [][]int{{1}, {5}, {5}, {1}, {5}, {5}}},
		{"a coil ahead of a timer", "coil m\ntimer t 2\nrun t = 1\nm = t", 6, 1, [][]int{{2}, {2}, {5}, {5}, {5}, {5}}},
		{"inputs are bits in order of their numbers", "input z\ncoil m\ninput a\nm = a & !z", 2, 4, [][]int{{0, 0, 1, 0}, {0, 0, 1, 0}}},
	} {
		m := made(t, c.program)
		if m.States != c.states || m.Inputs != c.inputs || !reflect.DeepEqual(m.Next, c.next) {
			t.Errorf("%s: %d states, %d inputs, %v, not %v", c.what, m.States, m.Inputs, m.Next, c.next)
		}
		checkWhole(t, parsed(t, c.program))
	}
}

// Parts of 2 (a coil), 2 (an input that is asked for), none (one that isn't), 3 and 4.
const sample = "coil m\ninput a\ntimer t 2\ninput b\ncounter c 3\n" +
	"m = b & !(t | ~a)\nrun t = a\ncount c = m | b\nzero c = c & !a"

func TestNumberAndState(t *testing.T) {
	m := made(t, sample)
	if m.States != 2*2*3*4 || m.Inputs != 4 {
		t.Fatalf("%d states, %d inputs", m.States, m.Inputs)
	}
	for _, c := range []struct {
		number int
		state  string
	}{
		{0, "00000 0 0 0 0 0"},
		{1, "10000 0 0 0 0 0"},
		{2, "01000 0 0 0 0 0"},
		{3, "11000 0 0 0 0 0"},
		{4, "00000 0 0 1 0 0"},
		{8, "00100 0 0 2 0 0"},
		{11, "11100 0 0 2 0 0"},
		{12, "00000 0 0 0 0 1"},
		{24, "00000 0 0 0 0 2"},
		{36, "00001 0 0 0 0 3"},
		{41, "10001 0 0 1 0 3"},
		{47, "11101 0 0 2 0 3"},
	} {
		s := m.State(c.number)
		if shown(s) != c.state || m.Number(s) != c.number {
			t.Errorf("%d: %s, %d, not %s", c.number, shown(s), m.Number(s), c.state)
		}
		// An input without a part is not in the number.
		s.Is[3] = true
		if got := m.Number(s); got != c.number {
			t.Errorf("%d with b: %d", c.number, got)
		}
	}
	if got := m.Number(scan.Start(m.Program)); got != 0 {
		t.Errorf("Start is %d", got)
	}
	checkWhole(t, m.Program)
}

// Edges that are asked for deep within an expression, of any kind of rung, count as well.
func TestEdgesMakeParts(t *testing.T) {
	const names = "input a\ninput b\ncoil m\ntimer t 1\ncounter c 1\n"
	for rungs, states := range map[string]int{
		"m = a & b":                          8,
		"m = ^a":                             16,
		"m = ~b":                             16,
		"m = ^a | ~b":                        32,
		"m = ^a & ~a & ^a":                   16,
		"m = 0 & ^a":                         16,
		"set m = !(b | !(1 & ~a))":           16,
		"reset m = ^b":                       16,
		"run t = ^a & b":                     16,
		"count c = ^b":                       16,
		"zero c = ~a":                        16,
		"m = 0\nm = a\nrun t = b | ^a":       16,
		"m = ^a\ncount c = ^b":               32,
		"m = ^a\ncount c = ^a":               16,
		"m = ^m | ~m | ^t | ~t | ^c | ~c":    8,
		"m = ^m & a\nrun t = ~c\nzero c = b": 8,
	} {
		if m := made(t, names+rungs); m.States != states || m.Inputs != 4 {
			t.Errorf("%q: %d states, not %d", rungs, m.States, states)
		}
		checkWhole(t, parsed(t, names+rungs))
	}
}

func TestInput(t *testing.T) {
	m := made(t, "coil m\ninput z\ninput a\ntimer t 1\ninput k")
	for i, want := range []string{"000", "100", "010", "110", "001", "101", "011", "111"} {
		if got := shownBits(m.Input(i)); got != want {
			t.Errorf("Input of %d: %s, not %s", i, got, want)
		}
	}
	if got := made(t, "coil m").Input(0); len(got) != 0 {
		t.Errorf("Input of none: %v", got)
	}
	most := made(t, "input a\ninput b\ninput c\ninput d\ninput e\ninput f")
	if got := shownBits(most.Input(1)) + " " + shownBits(most.Input(63)) + " " + shownBits(most.Input(32)); got != "100000 111111 000001" {
		t.Errorf("Input of six: %s", got)
	}
}

// 4.1: errors of Of

func TestOfSaysWhatCheckSays(t *testing.T) {
	yes := expr.Const(true)
	var seven []ladder.Name
	for _, name := range []string{"a", "b", "c", "d", "e", "f", "g"} {
		seven = append(seven, ladder.Name{Name: name, Kind: ladder.Input})
	}
	var wide []ladder.Name
	for _, name := range []string{"a", "b", "c", "d", "e", "f", "g"} {
		wide = append(wide, ladder.Name{Name: name, Kind: ladder.Counter, Count: 7})
	}
	for i, c := range []struct {
		p    ladder.Program
		want string
	}{
		{ladder.Program{Names: make([]ladder.Name, 13)}, "4"},
		{ladder.Program{Rungs: make([]ladder.Rung, 41)}, "4"},
		{ladder.Program{Names: make([]ladder.Name, 1)}, "5 at 0"},
		{ladder.Program{Names: []ladder.Name{{Name: "m", Kind: 5}}}, "1 at 0"},
		{ladder.Program{Names: []ladder.Name{{Name: "t", Kind: ladder.Timer, Count: 8}}}, "2 at 0"},
		{ladder.Program{Names: []ladder.Name{{Name: "t", Kind: ladder.Timer, Count: math.MaxInt}}}, "2 at 0"},
		// What Check says comes ahead of ErrLimit.
		{ladder.Program{Names: append(seven[:7:7], seven[0])}, "9 at 7"},
		{ladder.Program{Names: append(wide[:7:7], wide[3])}, "9 at 7"},
		{ladder.Program{Names: seven, Rungs: []ladder.Rung{{Kind: ladder.Sets, Name: "q", If: yes}}}, "7 at 7"},
		{ladder.Program{Names: wide, Rungs: []ladder.Rung{{Kind: ladder.Count, Name: "a", If: yes}, {Kind: ladder.Count, Name: "a"}}}, "1 at 8"},
		{ladder.Program{Names: wide, Rungs: []ladder.Rung{{Kind: ladder.Count, Name: "a", If: expr.Rise("q")}}}, "7 at 7"},
	} {
		m, err := Of(c.p)
		if got := wrong(err); got != c.want || got != wrong(ladder.Check(c.p)) || m != nil {
			t.Errorf("program %d: %s, %s, not %s", i, size(m), got, c.want)
		}
	}
}

// named writes lines with a name of its own at the end of each head, but ahead of a count.
func named(heads ...string) string {
	text := ""
	for i, head := range heads {
		kind, count, _ := strings.Cut(head, " ")
		text += kind + " n" + strconv.Itoa(i)
		if count != "" {
			text += " " + count
		}
		text += "\n"
	}
	return text
}

func TestOfLimits(t *testing.T) {
	many := func(n int, head string) []string { return slices.Repeat([]string{head}, n) }
	edges := func(n int) string {
		text := "n6 = 1"
		for i := range n {
			text += " & ^n" + strconv.Itoa(i)
		}
		return text
	}
	for _, c := range []struct {
		what, program  string
		states, inputs int // 0: too many
	}{
		{"6 inputs", named(many(6, "input")...), 1, 64},
		{"7 inputs", named(many(7, "input")...), 0, 0},
		{"12 inputs", named(many(12, "input")...), 0, 0},
		{"7 inputs among others", named("input", "coil", "input", "input", "timer 1", "input", "input", "input", "counter 1", "input"), 0, 0},
		{"6 inputs among others", named("input", "coil", "input", "input", "timer 1", "input", "input", "counter 1", "input"), 8, 64},
		{"12 coils", named(many(12, "coil")...), 4096, 1},
		{"4 timers of 7", named(many(4, "timer 7")...), 4096, 1},
		{"4 counters of 7", named(many(4, "counter 7")...), 4096, 1},
		{"4 timers of 7, an input", named(append(many(4, "timer 7"), "input")...), 4096, 2},
		{"4 timers of 7, a coil", named(append(many(4, "timer 7"), "coil")...), 0, 0},
		{"4 timers of 7, a coil ahead", named(append([]string{"coil"}, many(4, "timer 7")...)...), 0, 0},
		{"4116", named("coil", "coil", "timer 2", "timer 6", "counter 6", "counter 6"), 0, 0},
		{"4032", named("timer 6", "timer 7", "counter 7", "counter 2", "counter 2"), 4032, 1},
		{"as many as may be told", named(many(12, "counter 7")...), 0, 0},
		{"6 inputs with edges, 6 coils", named(append(many(6, "input"), many(6, "coil")...)...) + edges(6), 4096, 64},
		{"edges that are too many", named("input", "input", "input", "input", "input", "input", "coil", "timer 7", "counter 3", "coil", "counter 1") + edges(6), 0, 0},
		{"edges that are not", named("input", "input", "input", "input", "input", "input", "coil", "timer 7", "counter 3", "coil", "counter 1") + edges(4), 4096, 64},
	} {
		p := parsed(t, c.program)
		m, err := Of(p)
		if c.states == 0 {
			if err != error(api.ErrLimit) || m != nil {
				t.Errorf("%s: %s, %s", c.what, size(m), wrong(err))
			}
			continue
		}
		if err != nil || m.States != c.states || m.Inputs != c.inputs || len(m.Next) != c.states {
			t.Errorf("%s: %s, %s", c.what, size(m), wrong(err))
		}
	}
}

// 4.2

func TestSees(t *testing.T) {
	m := made(t, "input a\ncoil m\ninput b\ntimer t 2\nm = ^a\nrun t = b")
	// Parts: a of 2, m of 2, t of 3. Of each: a, m, b, t behind the scan.
	for _, c := range []struct {
		s, i int
		want string
	}{
		{0, 0, "0000"},
		{0, 1, "1100"},
		{0, 2, "0010"},
		{0, 3, "1110"},
		{1, 1, "1000"},
		{3, 3, "1010"},
		{4, 2, "0011"},
		{5, 3, "1011"},
		{8, 2, "0011"},
		{8, 0, "0000"},
		{11, 1, "1000"},
		{10, 3, "1111"},
	} {
		if got, err := m.Sees(c.s, c.i); err != nil || shownBits(got) != c.want {
			t.Errorf("from %d by %d: %s, %s, not %s", c.s, c.i, shownBits(got), wrong(err), c.want)
		}
	}
	if got, err := made(t, "").Sees(0, 0); err != nil || len(got) != 0 {
		t.Errorf("of no names: %v, %s", got, wrong(err))
	}
}

func TestSeesErrors(t *testing.T) {
	m := made(t, "input a\ncoil m\ntimer t 2\nm = ^a")
	if m.States != 12 || m.Inputs != 2 {
		t.Fatalf("%d states, %d inputs", m.States, m.Inputs)
	}
	for _, c := range []struct {
		s, i int
		want string
	}{
		{0, 0, "0"},
		{11, 1, "0"},
		{12, 0, "2"},
		{12, 1, "2"},
		{-1, 0, "2"},
		{0, 2, "2"},
		{11, 2, "2"},
		{0, -1, "2"},
		{-1, -1, "2"},
		{12, 2, "2"},
		{math.MaxInt, 0, "2"},
		{math.MinInt, 0, "2"},
		{0, math.MaxInt, "2"},
		{0, math.MinInt, "2"},
	} {
		l, err := m.Sees(c.s, c.i)
		if got := wrong(err); got != c.want || (err != nil) != (l == nil) {
			t.Errorf("from %d by %d: %v, %s, not %s", c.s, c.i, l, got, c.want)
		}
		l, err = (*Machine)(nil).Sees(c.s, c.i)
		if got := wrong(err); got != "7" || l != nil {
			t.Errorf("nil, from %d by %d: %v, %s", c.s, c.i, l, got)
		}
	}
}

// A machine is its program

// draw gives numbers that look drawn, the same each time.
type draw uint64

func (d *draw) below(n int) int {
	*d = *d*6364136223846793005 + 1442695040888963407
	return int(uint64(*d>>33) % uint64(n))
}

func (d *draw) expression(names []ladder.Name, deep int) expr.Expr {
	name := names[d.below(len(names))].Name
	if deep == 0 {
		return []expr.Expr{expr.Const(d.below(2) == 0), expr.Bit(name), expr.Bit(name), expr.Rise(name), expr.Fall(name)}[d.below(5)]
	}
	x, y := d.expression(names, deep-1), d.expression(names, deep-1)
	return []expr.Expr{x, expr.Not{Of: x}, expr.And{x, y}, expr.Or{x, y}}[d.below(4)]
}

// program has up to 6 names of any kinds, in any order.
func (d *draw) program() ladder.Program {
	var p ladder.Program
	for i := range 1 + d.below(6) {
		n := ladder.Name{Name: "n" + strconv.Itoa(i), Kind: ladder.Input + d.below(4)}
		if n.Kind == ladder.Timer || n.Kind == ladder.Counter {
			n.Count = 1 + d.below(3)
		}
		p.Names = append(p.Names, n)
	}
	kinds := [][]int{ladder.Input: nil, ladder.Coil: {ladder.Sets, ladder.Set, ladder.Reset}, ladder.Timer: {ladder.Run}, ladder.Counter: {ladder.Count, ladder.Zero}}
	for range d.below(9) {
		n := p.Names[d.below(len(p.Names))]
		if l := kinds[n.Kind]; l != nil {
			p.Rungs = append(p.Rungs, ladder.Rung{Kind: l[d.below(len(l))], Name: n.Name, If: d.expression(p.Names, d.below(4))})
		}
	}
	return p
}

func TestDrawnPrograms(t *testing.T) {
	d := draw(4)
	for range 300 {
		checkWhole(t, d.program())
	}
}

// From state 0 on the numbers go where the states go, and what is seen is what is so.
func TestMachinesPlay(t *testing.T) {
	d := draw(11)
	for range 300 {
		p := d.program()
		m := madeOf(t, p)
		var numbers []int
		var in [][]bool
		for range 30 {
			i := d.below(m.Inputs)
			numbers, in = append(numbers, i), append(in, m.Input(i))
		}
		states, err := scan.Play(p, in)
		if err != nil {
			t.Fatalf("Play of %q: %s", ladder.Text(p), wrong(err))
		}
		at := 0
		for k, s := range states {
			sees, err := m.Sees(at, numbers[k])
			at = m.Next[at][numbers[k]]
			if err != nil || at != m.Number(s) || !slices.Equal(sees, s.Is) {
				t.Fatalf("%q, scan %d: %d, %s, not %s", ladder.Text(p), k, at, shownBits(sees), shown(s))
			}
		}
	}
}

// Rules that hold everywhere

// Of these numbers, states and machines nothing is said, but no call panics, and the answers are zero values.
func TestNothingPanics(t *testing.T) {
	m := made(t, sample)
	for _, n := range []int{-1, 4, 48, 64, 1 << 40, math.MaxInt, math.MinInt} {
		if got := m.Input(n); got != nil {
			t.Errorf("Input of %d: %v", n, got)
		}
		if got := m.State(n); n != 4 && !isZero(got) {
			t.Errorf("State of %d: %v", n, got)
		}
	}
	for _, s := range []scan.State{{}, {Is: make([]bool, 5)}, {Count: make([]int, 5)}, {Is: make([]bool, 4), Count: make([]int, 5)},
		{Is: bits("11111"), Count: []int{9, 9, 9, 9}}, {Is: bits("111111"), Count: make([]int, 6)}} {
		if got := m.Number(s); got != 0 {
			t.Errorf("Number of %v: %d", s, got)
		}
	}
	m.Number(scan.State{Is: bits("11111"), Count: []int{math.MaxInt, math.MinInt, math.MaxInt, -1, math.MinInt}})
	for _, odd := range []*Machine{nil, {}, {Program: m.Program}, {States: 9, Inputs: 9}, {Next: m.Next, Inputs: -1, States: -1}, {Program: m.Program, States: 48, Inputs: 4, Next: m.Next}} {
		for _, n := range []int{-1, 0, 1, 8, math.MaxInt} {
			odd.Input(n)
			odd.State(n)
			odd.Number(m.State(n))
			if l, err := odd.Sees(n, 0); err == nil || l != nil {
				t.Errorf("%s: %v, %s", size(odd), l, wrong(err))
			}
		}
	}
	for _, p := range []ladder.Program{
		{Names: []ladder.Name{{Name: "m", Kind: ladder.Coil}}, Rungs: []ladder.Rung{{Kind: ladder.Sets, Name: "m", If: expr.Not{}}}},
		{Names: []ladder.Name{{Name: "m", Kind: ladder.Coil}}, Rungs: []ladder.Rung{{Kind: ladder.Sets, Name: "m", If: expr.And{nil, expr.Or{}}}}},
		{Names: []ladder.Name{{Name: "m", Kind: ladder.Coil}}, Rungs: []ladder.Rung{{Kind: ladder.Sets, Name: "m", If: (*expr.Bit)(nil)}}},
		{Names: make([]ladder.Name, 1000), Rungs: make([]ladder.Rung, 1000)},
	} {
		Of(p)
	}
}

func TestArgumentsStayAndAreNotKept(t *testing.T) {
	p := parsed(t, sample)
	names, rungs := append(p.Names, ladder.Name{Name: "behind"}), append(p.Rungs, ladder.Rung{Name: "behind"})
	p = ladder.Program{Names: names[:len(names)-1], Rungs: rungs[:len(rungs)-1]}
	text := ladder.Text(p)
	m, again := madeOf(t, p), madeOf(t, parsed(t, sample))
	if ladder.Text(p) != text || names[len(names)-1].Name != "behind" || rungs[len(rungs)-1].Name != "behind" {
		t.Error("Of wrote into what it was given")
	}
	for i := range names {
		names[i] = ladder.Name{Name: "x", Kind: ladder.Input}
	}
	for i := range rungs {
		rungs[i] = ladder.Rung{Kind: ladder.Run}
	}
	if !reflect.DeepEqual(m, again) || ladder.Text(m.Program) != text {
		t.Error("Of kept what it was given")
	}
	for n := range m.States {
		for i := range m.Inputs {
			checkScan(t, m, m.State(n), n, i)
		}
	}
	s := scan.State{Is: bits("1010111")[:5], Count: []int{0, 0, 2, 0, 3, 7, 7}[:5]}
	before := shown(scan.State{Is: s.Is[:7], Count: s.Count[:7]})
	if got := m.Number(s); got != 45 {
		t.Errorf("Number: %d", got)
	}
	if after := shown(scan.State{Is: s.Is[:7], Count: s.Count[:7]}); after != before {
		t.Errorf("Number wrote into what it was given: %s, not %s", after, before)
	}
}

// What is handed out is written over, and beyond its length: neither another list nor a later answer changes.
func TestAnswersShareNothing(t *testing.T) {
	m, other := made(t, sample), made(t, sample)
	for n := range m.States {
		s := m.State(n)
		for k := range s.Is {
			s.Is[k], s.Count[k] = !s.Is[k], 99
		}
		_, _ = append(s.Is, true), append(s.Count, 99)
	}
	for i := range m.Inputs {
		for _, l := range [][]bool{m.Input(i), seen(t, m, 0, i), seen(t, m, 47, i)} {
			for k := range l {
				l[k] = !l[k]
			}
			_ = append(l, true)
		}
	}
	for n := range m.Next {
		_ = append(m.Next[n], 99)
	}
	if !reflect.DeepEqual(m, other) {
		t.Error("a machine shares with what it answered")
	}
	for n := range m.Next {
		for i := range m.Next[n] {
			m.Next[n][i] = -1
		}
	}
	if reflect.DeepEqual(m.Next, other.Next) || !reflect.DeepEqual(other, made(t, sample)) {
		t.Error("two machines share")
	}
	for n := range other.States {
		for i := range other.Inputs {
			if !slices.Equal(seen(t, m, n, i), seen(t, other, n, i)) {
				t.Fatalf("Sees of %d by %d hangs on what was done to Next", n, i)
			}
		}
	}
	checkWhole(t, other.Program)
}

func seen(t *testing.T, m *Machine, s, i int) []bool {
	t.Helper()
	l, err := m.Sees(s, i)
	if err != nil {
		t.Fatalf("Sees of %d by %d: %s", s, i, wrong(err))
	}
	return l
}

// The greatest machine: as many states, inputs and rungs as may be.
func TestGreatestMachine(t *testing.T) {
	lines := []string{named("input", "input", "input", "input", "input", "input", "timer 7", "counter 7", "counter 7", "counter 7")}
	for i := range api.MaxRungs {
		lines = append(lines, []string{"run n6", "count n7", "count n8", "zero n9"}[i%4]+" = n0 & !n1 | n6 & (n2 | n3)")
	}
	m := made(t, lines...)
	if m.States != api.MaxStates || m.Inputs != 1<<api.MaxInputs {
		t.Fatalf("%d states, %d inputs", m.States, m.Inputs)
	}
	// By n0 each timer and counter goes on 10 times in a scan, but n9 is at 0.
	if got := m.Next[0][1]; got != 7+8*7+64*7 {
		t.Errorf("Next: %d", got)
	}
	if got := m.Next[4095][2]; got != 8*7+64*7+512*7 {
		t.Errorf("Next of the last one: %d", got)
	}
	if got := shownBits(seen(t, m, 4095, 63)); got != "1111111110" {
		t.Errorf("Sees: %s", got)
	}
}
