package reach

import (
	"errors"
	"math"
	"reflect"
	"slices"
	"strconv"
	"strings"
	"testing"

	"signalcabin/api"
	"signalcabin/expr"
	"signalcabin/ladder"
	"signalcabin/machine"
)

// wrong writes an error: its number, and its place, if it has one.
func wrong(err error) string {
	s := strconv.Itoa(int(api.Tell(err)))
	var at *api.At
	if errors.As(err, &at) {
		s += " at " + strconv.Itoa(at.Place)
	}
	return s
}

func made(t *testing.T, lines ...string) *machine.Machine {
	t.Helper()
	p, err := ladder.Parse(strings.Join(lines, "\n"))
	if err != nil {
		t.Fatalf("Parse of %q: %s", lines, wrong(err))
	}
	return madeOf(t, p)
}

func madeOf(t *testing.T, p ladder.Program) *machine.Machine {
	t.Helper()
	m, err := machine.Of(p)
	if err != nil || m == nil {
		t.Fatalf("Of %q: %s", ladder.Text(p), wrong(err))
	}
	return m
}

// laid is a machine of which nothing counts but where it goes: from each state, by each input.
func laid(next ...[]int) *machine.Machine {
	return &machine.Machine{States: len(next), Inputs: len(next[0]), Next: next}
}

// bits reads a list of bools: a 0 or 1 for each.
func bits(text string) []bool {
	l := make([]bool, len(text))
	for i := range l {
		l[i] = text[i] == '1'
	}
	return l
}

func shown(l []bool) string {
	text := ""
	for _, is := range l {
		if is {
			text += "1"
		} else {
			text += "0"
		}
	}
	return text
}

// ask asks all of those that take a list, in the order of the document.
func ask(m *machine.Machine, l []bool) (answers [3][]bool, errs [3]error) {
	answers[0], errs[0] = Stays(m, l)
	answers[1], errs[1] = Comes(m, l)
	answers[2], errs[2] = Forces(m, l)
	return answers, errs
}

// 5.1

const (
	// m is set, and stays: 0 goes to 0 and 1, 1 to 1 and 1.
	latch = "input a\ncoil m\nset m = a"
	// t goes on with a, and falls back without: 0, 1, 2.
	timer = "input a\ntimer t 2\nrun t = a"
	// m is never true, so states 1 and 3 are never come to.
	never = "coil m\ncoil k\nm = 0\nk = !k"
	// c is never at 1: it goes on twice in a scan.
	twice = "input a\ncounter c 3\ncount c = a\ncount c = a"
)

func TestFar(t *testing.T) {
	for _, c := range []struct {
		what, program string
		far           []int
	}{
		{"nothing", "", []int{0}},
		{"inputs alone", "input a\ninput b", []int{0}},
		{"a latch", latch, []int{0, 1}},
		{"a timer", timer, []int{0, 1, 2}},
		{"a coil that never is", never, []int{0, -1, 1, -1}},
		{"a counter, two by two", twice, []int{0, -1, 1, 2}},
		{"a coil without rungs", "coil m", []int{0, -1}},
		{"an input that rises", "input a\ncoil m\nm = ^a", []int{0, 2, -1, 1}},
		{"two ways, a long one and a short one", "input a\ncounter c 3\ncount c = 1\ncount c = a\ncount c = a", []int{0, 1, 2, 1}},
	} {
		m := made(t, c.program)
		if far, err := Far(m); err != nil || !slices.Equal(far, c.far) {
			t.Errorf("%s: %v, %s, not %v", c.what, far, wrong(err), c.far)
		}
	}
}

func TestPath(t *testing.T) {
	for _, c := range []struct {
		what, program string
		to            int
		path          []int
	}{
		{"the first one", latch, 0, nil},
		{"the first one, of nothing", "", 0, nil},
		{"a latch", latch, 1, []int{1}},
		{"a timer", timer, 2, []int{1, 1}},
		{"without inputs", never, 2, []int{0}},
		{"a counter, two by two", twice, 3, []int{1, 1}},
		{"an input that rises, and is", "input a\ncoil m\nm = ^a", 1, []int{1, 1}},
		{"a short way of great inputs", "input a\ncounter c 3\ncount c = 1\ncount c = a\ncount c = a", 3, []int{1}},
		{"of like ones the least", "input a\ninput b\ncoil m\nset m = a | b", 1, []int{1}},
		{"of like ones the least, at each scan", "input a\ninput b\ncounter c 2\ncount c = a | b", 2, []int{1, 1}},
		{"of like ones the least, behind another", "input a\ninput b\ncoil m\ncoil k\nset k = m & a & b\nset m = b", 3, []int{2, 3}},
	} {
		m := made(t, c.program)
		if path, err := Path(m, c.to); err != nil || !slices.Equal(path, c.path) {
			t.Errorf("%s: %v, %s, not %v", c.what, path, wrong(err), c.path)
		}
	}
}

// The least path counts from its first input on, whatever the numbers of the states between are.
func TestPathIsTheLeast(t *testing.T) {
	for _, c := range []struct {
		m    *machine.Machine
		path []int
	}{
		// By way of state 2 the first input is less, by state 1 the last one is.
		{laid([]int{2, 1}, []int{3, 3}, []int{0, 3}, []int{3, 3}), []int{0, 1}},
		{laid([]int{1, 2}, []int{0, 3}, []int{3, 3}, []int{3, 3}), []int{0, 1}},
		// Behind the second scan both ways have come to their last state, the second in the order of numbers is the less.
		{laid([]int{2, 1}, []int{3, 3}, []int{4, 4}, []int{5, 5}, []int{0, 5}, []int{5, 5}), []int{0, 0, 1}},
		{laid([]int{1, 2}, []int{4, 4}, []int{3, 3}, []int{5, 5}, []int{0, 5}, []int{5, 5}), []int{0, 0, 1}},
		// A way that is longer has the less inputs.
		{laid([]int{1, 0, 3}, []int{2, 2, 2}, []int{3, 3, 3}, []int{3, 3, 3}), []int{2}},
	} {
		if path, err := Path(c.m, len(c.m.Next)-1); err != nil || !slices.Equal(path, c.path) {
			t.Errorf("%v: %v, %s, not %v", c.m.Next, path, wrong(err), c.path)
		}
	}
}

func TestPathErrors(t *testing.T) {
	for _, c := range []struct {
		program string
		to      int
		want    string
	}{
		{latch, 2, "2"},
		{latch, -1, "2"},
		{latch, math.MaxInt, "2"},
		{latch, math.MinInt, "2"},
		{never, 4, "2"},
		{never, 1, "8"},
		{never, 3, "8"},
		{twice, 1, "8"},
		{"", 1, "2"},
		{"", -1, "2"},
		{latch, 0, "0"},
		{latch, 1, "0"},
	} {
		path, err := Path(made(t, c.program), c.to)
		if got := wrong(err); got != c.want || err != nil && path != nil {
			t.Errorf("%q, to %d: %v, %s, not %s", c.program, c.to, path, got, c.want)
		}
	}
}

func TestMissing(t *testing.T) {
	if far, err := Far(nil); far != nil || err != error(api.ErrMissing) {
		t.Errorf("Far: %v, %s", far, wrong(err))
	}
	for _, to := range []int{-1, 0, 1, math.MaxInt} {
		if path, err := Path(nil, to); path != nil || err != error(api.ErrMissing) {
			t.Errorf("Path to %d: %v, %s", to, path, wrong(err))
		}
	}
	for _, l := range [][]bool{nil, {}, {true}, make([]bool, 5000)} {
		answers, errs := ask(nil, l)
		for k, err := range errs {
			if answers[k] != nil || err != error(api.ErrMissing) {
				t.Errorf("%d, of %d: %v, %s", k, len(l), answers[k], wrong(err))
			}
		}
	}
}

// 5.2

func TestStaysComesForces(t *testing.T) {
	for _, c := range []struct {
		what, program                string
		states, stays, comes, forces string
	}{
		{"nothing", "", "1", "1", "1", "1"},
		{"nothing, and none", "", "0", "0", "0", "0"},
		{"a latch, open", latch, "10", "00", "10", "10"},
		{"a latch, closed", latch, "01", "01", "11", "01"},
		{"a latch, all", latch, "11", "11", "11", "11"},
		{"a latch, none", latch, "00", "00", "00", "00"},
		{"a timer at 0", timer, "100", "000", "111", "100"},
		{"a timer on its way", timer, "110", "000", "111", "110"},
		{"a timer that is", timer, "001", "000", "111", "001"},
		{"a coil that never is", never, "1010", "1010", "1111", "1111"},
		{"a coil that goes to and fro", never, "1000", "0000", "1111", "1111"},
		{"coils that are", never, "0101", "0000", "0101", "0101"},
		{"a counter, two by two", twice, "0001", "0001", "1111", "0001"},
		{"a counter that may go on", twice, "0111", "0111", "1111", "0111"},
		{"a counter that goes on by itself", "counter c 3\ncount c = 1", "0010", "0000", "1110", "1110"},
		{"a counter at its end", "counter c 3\ncount c = 1", "1001", "0001", "1111", "1111"},
		{"a counter that is held", "input a\ncounter c 2\ncount c = !c | a", "010", "000", "110", "110"},
		{"a coil without rungs", "coil m", "01", "01", "01", "01"},
	} {
		answers, errs := ask(made(t, c.program), bits(c.states))
		for k, want := range []string{c.stays, c.comes, c.forces} {
			if got := shown(answers[k]); errs[k] != nil || got != want {
				t.Errorf("%s, %d: %s, %s, not %s", c.what, k, got, wrong(errs[k]), want)
			}
		}
	}
}

func TestAsManyAsStates(t *testing.T) {
	for _, c := range []struct {
		program string
		many    int
		want    error
	}{
		{latch, 0, api.ErrForm},
		{latch, 1, api.ErrForm},
		{latch, 2, nil},
		{latch, 3, api.ErrForm},
		{"", 0, api.ErrForm},
		{"", 1, nil},
		{"", 2, api.ErrForm},
		{timer, 2, api.ErrForm},
		{timer, 3, nil},
		{timer, 4, api.ErrForm},
	} {
		answers, errs := ask(made(t, c.program), make([]bool, c.many))
		for k, err := range errs {
			if err != c.want || (err == nil) != (answers[k] != nil) {
				t.Errorf("%q, %d of %d: %v, %s", c.program, k, c.many, answers[k], wrong(err))
			}
		}
	}
}

// Held against what the document says, of drawn machines

// draw gives numbers that look drawn, the same each time.
type draw uint64

func (d *draw) below(n int) int {
	*d = *d*6364136223846793005 + 1442695040888963407
	return int(uint64(*d>>33) % uint64(n))
}

func (d *draw) laid(states, inputs int) *machine.Machine {
	next := make([][]int, states)
	for s := range next {
		for range inputs {
			next[s] = append(next[s], d.below(states))
		}
	}
	return laid(next...)
}

func (d *draw) bools(many, below int) []bool {
	l := make([]bool, many)
	for k := range l {
		l[k] = d.below(below) == 0
	}
	return l
}

func (d *draw) expression(names []ladder.Name, deep int) expr.Expr {
	name := names[d.below(len(names))].Name
	if deep == 0 {
		return []expr.Expr{expr.Const(d.below(2) == 0), expr.Bit(name), expr.Bit(name), expr.Rise(name), expr.Fall(name)}[d.below(5)]
	}
	x, y := d.expression(names, deep-1), d.expression(names, deep-1)
	return []expr.Expr{x, expr.Not{Of: x}, expr.And{x, y}, expr.Or{x, y}}[d.below(4)]
}

// program has up to 6 names of any kinds, in any order.
func (d *draw) program() ladder.Program {
	var p ladder.Program
	for i := range 1 + d.below(6) {
		n := ladder.Name{Name: "n" + strconv.Itoa(i), Kind: ladder.Input + d.below(4)}
		if n.Kind == ladder.Timer || n.Kind == ladder.Counter {
			n.Count = 1 + d.below(3)
		}
		p.Names = append(p.Names, n)
	}
	kinds := [][]int{ladder.Input: nil, ladder.Coil: {ladder.Sets, ladder.Set, ladder.Reset}, ladder.Timer: {ladder.Run}, ladder.Counter: {ladder.Count, ladder.Zero}}
	for range d.below(9) {
		n := p.Names[d.below(len(p.Names))]
		if l := kinds[n.Kind]; l != nil {
			p.Rungs = append(p.Rungs, ladder.Rung{Kind: l[d.below(len(l))], Name: n.Name, If: d.expression(p.Names, d.below(4))})
		}
	}
	return p
}

// leastPaths goes through all lists of inputs: the shorter ones first, of like ones the less first. So the first one to a state is its path.
func leastPaths(m *machine.Machine, longest int) map[int][]int {
	paths := map[int][]int{0: {}}
	lists := [][]int{{}}
	for range longest {
		var longer [][]int
		for _, l := range lists {
			for i := range m.Inputs {
				longer = append(longer, append(slices.Clone(l), i))
			}
		}
		lists = longer
		for _, l := range lists {
			s := 0
			for _, i := range l {
				s = m.Next[s][i]
			}
			if paths[s] == nil {
				paths[s] = l
			}
		}
	}
	return paths
}

func checkPaths(t *testing.T, m *machine.Machine, longest int) {
	t.Helper()
	paths := leastPaths(m, longest)
	far, err := Far(m)
	if err != nil || len(far) != m.States {
		t.Fatalf("Far of %v: %v, %s", m.Next, far, wrong(err))
	}
	for s := range m.States {
		path, err := Path(m, s)
		if want, ok := paths[s]; ok {
			if err != nil || far[s] != len(want) || !slices.Equal(path, want) {
				t.Fatalf("%v: to %d: %v, %s, not %v", m.Next, s, path, wrong(err), want)
			}
		} else if far[s] >= 0 && far[s] <= longest || far[s] < -1 || (far[s] < 0) != (err == error(api.ErrNone)) || len(path) > 0 && len(path) != far[s] {
			t.Fatalf("%v: to %d: far %d, %v, %s", m.Next, s, far[s], path, wrong(err))
		}
	}
}

func TestDrawnPaths(t *testing.T) {
	d := draw(5)
	for range 400 {
		// All states that are come to are so in less scans than there are states.
		states := 1 + d.below(7)
		checkPaths(t, d.laid(states, 1+d.below(3)), states-1)
	}
	for range 100 {
		checkPaths(t, d.laid(2+d.below(20), 4), 4)
	}
}

// A path leads to its state, and none that is shorter does: from a state that is come to in n scans others are in n + 1 at most.
func TestPathsOfDrawnPrograms(t *testing.T) {
	d := draw(6)
	for range 300 {
		m := madeOf(t, d.program())
		far, err := Far(m)
		if err != nil || len(far) != m.States || far[0] != 0 {
			t.Fatalf("Far: %v, %s", far, wrong(err))
		}
		for s := range m.States {
			path, err := Path(m, s)
			if (err == nil) != (far[s] >= 0) || err == nil && len(path) != far[s] {
				t.Fatalf("%q: to %d: far %d, %v, %s", ladder.Text(m.Program), s, far[s], path, wrong(err))
			}
			at := 0
			for _, i := range path {
				at = m.Next[at][i]
			}
			if err == nil && at != s {
				t.Fatalf("%q: to %d: %v leads to %d", ladder.Text(m.Program), s, path, at)
			}
			for _, to := range m.Next[s] {
				if far[s] >= 0 && (far[to] < 0 || far[to] > far[s]+1) {
					t.Fatalf("%q: far %d, and from there %d", ladder.Text(m.Program), far[s], far[to])
				}
			}
		}
	}
}

// leads says whether some input leads from a state into a set (bit s is state s), and whether every one does.
func leads(m *machine.Machine, s, set int) (some, every bool) {
	every = true
	for i := range m.Inputs {
		if set>>m.Next[s][i]&1 == 1 {
			some = true
		} else {
			every = false
		}
	}
	return some, every
}

// closed says what a set of states is: whether every input leads from each of it into it again, and whether each from which some input, or every one, leads into it is in it.
func closed(m *machine.Machine, set int) (stays, comes, forces bool) {
	stays, comes, forces = true, true, true
	for s := range m.States {
		some, every := leads(m, s, set)
		in := set>>s&1 == 1
		stays = stays && (!in || every)
		comes = comes && (in || !some)
		forces = forces && (in || !every)
	}
	return stays, comes, forces
}

// checkFixed goes through all sets of states: the most that stays is all of those that stay together, the fewest is what all have.
func checkFixed(t *testing.T, m *machine.Machine, told []bool) {
	t.Helper()
	l := 0
	for s, is := range told {
		if is {
			l |= 1 << s
		}
	}
	all := 1<<m.States - 1
	want := [3]int{0, all, all}
	for set := range all + 1 {
		stays, comes, forces := closed(m, set)
		if stays && set&^l == 0 {
			want[0] |= set
		}
		if comes && l&^set == 0 {
			want[1] &= set
		}
		if forces && l&^set == 0 {
			want[2] &= set
		}
	}
	answers, errs := ask(m, told)
	for k, answer := range answers {
		for s := range m.States {
			if errs[k] != nil || len(answer) != m.States || answer[s] != (want[k]>>s&1 == 1) {
				t.Fatalf("%v, %s, %d: %s, %s, not %b from the right", m.Next, shown(told), k, shown(answer), wrong(errs[k]), want[k])
			}
		}
	}
}

func TestDrawnFixedPoints(t *testing.T) {
	d := draw(7)
	for range 400 {
		m := d.laid(1+d.below(8), 1+d.below(3))
		checkFixed(t, m, d.bools(m.States, 2+d.below(3)))
	}
	tried := 0
	for tried < 150 {
		m := madeOf(t, d.program())
		if m.States <= 12 {
			checkFixed(t, m, d.bools(m.States, 2+d.below(3)))
			tried++
		}
	}
}

// What stays and what comes are fixed, and each the other's other side.
func TestOtherSide(t *testing.T) {
	d := draw(8)
	for range 200 {
		m := madeOf(t, d.program())
		told := d.bools(m.States, 2+d.below(8))
		var not []bool
		for _, is := range told {
			not = append(not, !is)
		}
		comes, _ := Comes(m, told)
		stays, _ := Stays(m, not)
		forces, _ := Forces(m, told)
		for s := range m.States {
			if comes[s] == stays[s] || told[s] && !forces[s] || forces[s] && !comes[s] {
				t.Fatalf("%q, %s: state %d: %s comes, %s stays, %s is forced", ladder.Text(m.Program), shown(told), s, shown(comes), shown(stays), shown(forces))
			}
		}
		for k, l := range [][]bool{stays, comes, forces} {
			again, errs := ask(m, l)
			if errs[k] != nil || !slices.Equal(again[k], l) {
				t.Fatalf("%q, %s, %d: %s is not fixed", ladder.Text(m.Program), shown(told), k, shown(l))
			}
		}
	}
}

// Rules that hold everywhere

// Of machines that Of did not make nothing is said, but no call panics.
func TestNothingPanics(t *testing.T) {
	whole := made(t, twice)
	for _, m := range []*machine.Machine{
		{},
		{States: 9, Inputs: 9},
		{States: -1, Inputs: -1},
		{States: math.MaxInt, Inputs: math.MaxInt},
		{Program: whole.Program},
		{Program: whole.Program, States: 4, Inputs: 2},
		{States: 4, Inputs: 2, Next: whole.Next[:3]},
		{States: 3, Inputs: 2, Next: whole.Next},
		{States: 2, Inputs: 1, Next: [][]int{nil, nil}},
		{States: 2, Inputs: 2, Next: [][]int{{1}, {0, 1, 1}}},
		{States: 2, Inputs: 2, Next: [][]int{{1, 2}, {-1, 0}}},
		{States: 2, Inputs: 2, Next: [][]int{{math.MaxInt, 1}, {math.MinInt, math.MaxInt}}},
	} {
		Far(m)
		for _, to := range []int{-1, 0, 1, 2, 3, math.MaxInt, math.MinInt} {
			Path(m, to)
		}
		for many := range 6 {
			ask(m, make([]bool, many))
			ask(m, bits("111111")[:many])
			ask(m, bits("010101")[:many])
		}
	}
}

func TestArgumentsStay(t *testing.T) {
	d := draw(9)
	for range 50 {
		m := madeOf(t, d.program())
		before := madeOf(t, m.Program)
		told := append(d.bools(m.States, 2), true, false)
		behind := slices.Clone(told)
		answers, _ := ask(m, told[:m.States])
		Far(m)
		Path(m, m.States-1)
		if !slices.Equal(told, behind) || !reflect.DeepEqual(m, before) {
			t.Fatalf("%q: what was handed in is written into", ladder.Text(m.Program))
		}
		for _, l := range answers {
			for k := range l {
				l[k] = !l[k]
			}
		}
		if !slices.Equal(told, behind) {
			t.Fatalf("%q: an answer is what was handed in", ladder.Text(m.Program))
		}
	}
}

// What is handed out is written over: no later answer changes.
func TestAnswersShareNothing(t *testing.T) {
	m := made(t, timer)
	far, _ := Far(m)
	path, _ := Path(m, 2)
	answers, _ := ask(m, bits("110"))
	for k := range far {
		far[k] = 9
	}
	for k := range path {
		path[k] = 9
	}
	for _, l := range answers {
		for k := range l {
			l[k] = !l[k]
		}
	}
	far, _ = Far(m)
	path, _ = Path(m, 2)
	answers, _ = ask(m, bits("110"))
	if !slices.Equal(far, []int{0, 1, 2}) || !slices.Equal(path, []int{1, 1}) || shown(answers[0])+" "+shown(answers[1])+" "+shown(answers[2]) != "000 111 110" {
		t.Errorf("%v, %v, %v", far, path, answers)
	}
}

// The greatest machine, and the longest way through it: state by state. So each state enters alone, behind the one before.
func TestGreatestMachine(t *testing.T) {
	next := make([][]int, api.MaxStates)
	for s := range next {
		next[s] = make([]int, 1<<api.MaxInputs)
		for i := range next[s] {
			next[s][i] = s
		}
		next[s][63] = min(s+1, api.MaxStates-1)
	}
	m := laid(next...)
	far, err := Far(m)
	if err != nil || far[1] != 1 || far[4095] != 4095 {
		t.Errorf("Far: %s", wrong(err))
	}
	path, err := Path(m, 4095)
	if err != nil || len(path) != 4095 || slices.Min(path) != 63 {
		t.Errorf("Path: %d, %s", len(path), wrong(err))
	}
	last := make([]bool, api.MaxStates)
	last[4095] = true
	answers, errs := ask(m, last)
	if errs[0] != nil || !answers[0][4095] || answers[0][4094] || !answers[1][0] || answers[2][4094] {
		t.Errorf("%v", errs)
	}
	for s := range next {
		for i := range next[s] {
			next[s][i] = min(s+1+i%2*(api.MaxStates-s), api.MaxStates-1)
		}
	}
	answers, errs = ask(m, last)
	if errs[2] != nil || slices.Contains(answers[2], false) {
		t.Errorf("Forces: %v", errs)
	}
}
