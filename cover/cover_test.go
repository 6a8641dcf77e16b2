package cover

import (
	"errors"
	"slices"
	"strconv"
	"strings"
	"testing"

	"signalcabin/api"
	"signalcabin/expr"
	"signalcabin/ladder"
	"signalcabin/machine"
	"signalcabin/reach"
)

// wrong writes an error: its number, and its place, if it has one.
func wrong(err error) string {
	s := strconv.Itoa(int(api.Tell(err)))
	var at *api.At
	if errors.As(err, &at) {
		s += " at " + strconv.Itoa(at.Place)
	}
	return s
}

func parsed(t *testing.T, text string) expr.Expr {
	t.Helper()
	e, err := expr.Parse(text)
	if err != nil {
		t.Fatalf("Parse of %q: %s", text, wrong(err))
	}
	return e
}

// machineOf is that of a program of some lines.
func machineOf(t *testing.T, lines ...string) *machine.Machine {
	t.Helper()
	p, err := ladder.Parse(strings.Join(lines, "\n") + "\n")
	if err != nil {
		t.Fatalf("Parse of %q: %s", lines, wrong(err))
	}
	return madeOf(t, p)
}

func madeOf(t *testing.T, p ladder.Program) *machine.Machine {
	t.Helper()
	m, err := machine.Of(p)
	if err != nil {
		t.Fatalf("Of: %s", wrong(err))
	}
	return m
}

// shown writes pairs: of each its name, Off, On.
func shown(pairs []Pair) string {
	var l []string
	for _, p := range pairs {
		l = append(l, p.Name+" "+strconv.Itoa(int(p.Off))+" "+strconv.Itoa(int(p.On)))
	}
	return strings.Join(l, ", ")
}

func TestPairs(t *testing.T) {
	for text, want := range map[string]string{
		"a & b":                 "a 2 3, b 1 3",
		"a | b":                 "a 0 1, b 0 2",
		"a":                     "a 0 1",
		"!a":                    "a 0 1",
		"!(a & b) | c":          "a 2 3, b 1 3, c 3 7",
		"a & (b | c)":           "a 2 3, b 1 3, c 1 5",
		"a & !b | !a & b":       "a 0 1, b 0 2",
		"a & b | c & d":         "a 2 3, b 1 3, c 8 12, d 4 12",
		"a & !b & c & !d":       "a 4 5, b 5 7, c 1 5, d 5 13",
		"a & b | a & c | b & c": "a 2 3, b 1 3, c 1 5",
		"!a & b & (c | d)":      "a 6 7, b 4 6, c 2 6, d 2 10",
		// Names are in order of bytes, wherever they stand.
		"b & a":               "a 2 3, b 1 3",
		"z | !m & a":          "a 0 1, m 1 3, z 0 4",
		"ab & (aa | a_ | a1)": "a1 8 9, a_ 8 10, aa 8 12, ab 1 9",
		"a10 & a2 | a1":       "a1 0 1, a10 4 6, a2 2 6",
		"aa & a":              "a 2 3, aa 1 3",
		// A name that stands there twice is one.
		"a & a & a":         "a 0 1",
		"a & (a | b)":       "a 0 1",
		"(a | b) & (a | c)": "a 0 1, b 4 6, c 2 6",
		// Names on which nothing hangs are left out, and have their bits.
		"0":                     "",
		"1":                     "",
		"!(0 & !1)":             "",
		"a | !a":                "",
		"a & !a & b":            "",
		"0 & a":                 "",
		"1 | a & b":             "",
		"a & b | a & !b":        "a 0 1",
		"(a | !a) & b":          "b 0 2",
		"(a | !a) & b & c":      "b 4 6, c 2 6",
		"a & (b | !b) & c":      "a 4 5, c 1 5",
		"0 & a | b | 0 & c | d": "b 0 2, d 0 8",
	} {
		if got, err := Pairs(parsed(t, text)); err != nil || shown(got) != want {
			t.Errorf("%s: %s, %s, not %s", text, shown(got), wrong(err), want)
		}
	}
}

// joined is so many names, n1 and on, with a sign between.
func joined(many int, sign string) string {
	var l []string
	for k := range many {
		l = append(l, "n"+strconv.Itoa(k+1))
	}
	return strings.Join(l, sign)
}

func TestPairsOfManyNames(t *testing.T) {
	and, err := Pairs(parsed(t, joined(8, " & ")))
	or, err2 := Pairs(parsed(t, joined(8, " | ")))
	if err != nil || err2 != nil || len(and) != 8 || len(or) != 8 {
		t.Fatalf("%v, %s; %v, %s", and, wrong(err), or, wrong(err2))
	}
	for k := range 8 {
		name, bit := "n"+strconv.Itoa(k+1), uint(1)<<k
		if and[k] != (Pair{name, 255 - bit, 255}) {
			t.Errorf("all: the %d-th is %v", k, and[k])
		}
		if or[k] != (Pair{name, 0, bit}) {
			t.Errorf("one: the %d-th is %v", k, or[k])
		}
	}
	for many := 9; many <= 40; many++ {
		wantsPairs(t, parsed(t, joined(many, " & ")), api.ErrLimit)
	}
	// A name counts though nothing hangs on it, and once alone.
	wantsPairs(t, parsed(t, joined(8, " | ")+" | 0 & z"), api.ErrLimit)
	if l, err := Pairs(parsed(t, joined(8, " & ")+" & !!("+joined(8, " & ")+")")); err != nil || shown(l) != shown(and) {
		t.Errorf("8 names, each twice: %s, %s", shown(l), wrong(err))
	}
}

// wantsPairs asks for one error, without a place, and nothing besides.
func wantsPairs(t *testing.T, e expr.Expr, want api.Errno) {
	t.Helper()
	if l, err := Pairs(e); err != error(want) || l != nil {
		t.Errorf("%.40s: %v, %s, not %s", expr.Text(e), l, wrong(err), wrong(want))
	}
}

func TestPairsOfNothing(t *testing.T) {
	wantsPairs(t, nil, api.ErrMissing)
	var e expr.Expr
	wantsPairs(t, e, api.ErrMissing)
}

func TestPairsOfEdges(t *testing.T) {
	for _, text := range []string{"^a", "~a", "!^a", "a & ~a", "a | b & !(c | ^d)", "0 & ^a", "1 | ~b", "^a & !^a"} {
		wantsPairs(t, parsed(t, text), api.ErrArg)
	}
	// This is told ahead of how many names there are.
	for _, many := range []int{7, 8, 9, 20} {
		wantsPairs(t, parsed(t, joined(many, " & ")+" & ^z"), api.ErrArg)
		wantsPairs(t, parsed(t, "~n1 | "+joined(many, " | ")), api.ErrArg)
	}
}

// An expression may be deeper than Parse takes it.
func TestPairsOfDeepExpressions(t *testing.T) {
	var e expr.Expr = expr.Bit("a")
	for range 1 << 12 {
		e = expr.Not{Of: expr.And{e, expr.Bit("b")}}
		e = expr.Not{Of: expr.And{e, expr.Not{Of: expr.Bit("c")}}}
	}
	// Each round makes e into: e and b, or c. So it is a and b, or c.
	if l, err := Pairs(e); err != nil || shown(l) != "a 2 3, b 1 3, c 0 4" {
		t.Errorf("%s, %s", shown(l), wrong(err))
	}
}

// foreign is an expression of another package's making.
type foreign struct{ text *string }

func (f foreign) Text() string { return *f.text }

func TestPairsNeverPanic(t *testing.T) {
	for _, e := range []expr.Expr{
		expr.Not{}, expr.And{}, expr.Or(nil), expr.And{nil}, expr.Or{nil, expr.Bit("m")}, (*expr.Not)(nil), (*expr.Const)(nil), &expr.Not{Of: expr.Bit("q")},
		foreign{}, expr.Not{Of: foreign{}}, expr.And{foreign{}, expr.Bit("m")}, expr.And{foreign{}, expr.Rise("m")}, expr.Bit(""), expr.Bit("no name"),
	} {
		Pairs(e)
	}
}

// What was handed out, and written into, is not told again.
func TestPairsAreTheCallers(t *testing.T) {
	parts := expr.And{expr.Bit("b"), expr.Bit("a"), expr.Const(true)}
	e := parts[:2]
	for range 2 {
		l, err := Pairs(e)
		if err != nil || shown(l) != "a 2 3, b 1 3" {
			t.Fatalf("%s, %s", shown(l), wrong(err))
		}
		clear(l)
	}
	if expr.Text(parts) != "b & a & 1" {
		t.Errorf("the expression is %s now", expr.Text(parts))
	}
}

func TestTour(t *testing.T) {
	for _, c := range []struct {
		lines []string
		want  []int
		all   bool
	}{
		{[]string{"input a", "coil m", "set m = a"}, []int{0, 1, 0, 1}, true},
		{[]string{"input a", "coil m", "m = a"}, []int{0, 1, 0, 1, 1}, true},
		{[]string{"input a", "coil m", "m = !a"}, []int{0, 0, 1, 1}, true},
		// Without inputs there is one way from each state.
		{[]string{"coil m"}, []int{0}, true},
		{[]string{"coil m", "m = !m"}, []int{0, 0}, true},
		{[]string{"counter c 7", "count c = 1"}, []int{0, 0, 0, 0, 0, 0, 0, 0}, true},
		// Inputs that do nothing are ways of their own.
		{[]string{"input a"}, []int{0, 1}, true},
		{[]string{"input a", "input b", "input c"}, []int{0, 1, 2, 3, 4, 5, 6, 7}, true},
		// What can't be come back to is left, and what was not gone there stays so.
		{[]string{"input a", "coil m", "m = 1"}, []int{0, 0, 1}, false},
		{[]string{"input a", "counter c 2", "count c = 1"}, []int{0, 0, 0, 1}, false},
		{[]string{"input a", "coil m", "set m = !a"}, []int{0, 0, 1}, false},
		// All is gone, though there is no way back: the last one led on.
		{[]string{"input a", "counter c 2", "count c = a"}, []int{0, 1, 0, 1, 0, 1}, true},
		// Far ones are gone back to, again and again: t is at 2 behind 1 1 alone.
		{[]string{"input a", "timer t 2", "run t = a"}, []int{0, 1, 0, 1, 1, 0, 1, 1, 1}, true},
		{[]string{"input a", "timer t 3", "run t = a"}, []int{0, 1, 0, 1, 1, 0, 1, 1, 1, 0, 1, 1, 1, 1}, true},
		// An input that was is part of the state.
		{[]string{"input a", "coil m", "m = ^a"}, []int{0, 1, 0, 1, 1, 0, 1, 1, 1}, true},
	} {
		got, all, err := Tour(machineOf(t, c.lines...))
		if err != nil || all != c.all || !slices.Equal(got, c.want) {
			t.Errorf("%q: %v, %t, %s, not %v, %t", c.lines, got, all, wrong(err), c.want, c.all)
		}
	}
}

// Of ways that are as near the one by the least inputs is gone, not the one of the least state.
func TestTourTakesTheLeastInputs(t *testing.T) {
	// From state 0 by 0 to 2, by 1 to 1; back from both by all.
	m := &machine.Machine{States: 3, Inputs: 2, Next: [][]int{{2, 1}, {0, 0}, {0, 0}}}
	if got, all, err := Tour(m); err != nil || !all || !slices.Equal(got, []int{0, 0, 1, 0, 0, 1, 1, 1}) {
		t.Errorf("%v, %t, %s", got, all, wrong(err))
	}
}

// many comes to 100 states: three counters, of 5, 5 and 4; and to one more, if a coil is set when all have counted.
func many(t *testing.T, more bool) *machine.Machine {
	t.Helper()
	set := "set m = 0"
	if more {
		set = "set m = x & y & z"
	}
	return machineOf(t, "input a", "input b", "input c", "coil m", "counter x 4", "counter y 4", "counter z 3", set, "count x = a", "count y = b", "count z = c")
}

func TestTourOfManyStates(t *testing.T) {
	most, beyond := many(t, false), many(t, true)
	if n := len(comeTo(t, most)); n != 100 {
		t.Fatalf("%d states are come to, not 100", n)
	}
	if n := len(comeTo(t, beyond)); n != 101 {
		t.Fatalf("%d states are come to, not 101", n)
	}
	// Nothing counts back: x is counted up first, then y, then z, and the last ways are those from where all have counted.
	want := slices.Concat(slices.Repeat([]int{0, 1}, 4), slices.Repeat([]int{0, 1, 2}, 4), slices.Repeat([]int{0, 1, 2, 3, 4}, 3), []int{0, 1, 2, 3, 4, 5, 6, 7})
	if got, all, err := Tour(most); err != nil || all || !slices.Equal(got, want) {
		t.Errorf("100 states: %v, %t, %s, not %v", got, all, wrong(err), want)
	}
	if got, all, err := Tour(beyond); err != error(api.ErrLimit) || all || got != nil {
		t.Errorf("101 states: %v, %t, %s", got, all, wrong(err))
	}
}

// States that are never come to don't count, and their ways need not be gone.
func TestTourLeavesOutWhatIsNeverComeTo(t *testing.T) {
	lines := []string{"input a"}
	for k := range 12 - 1 {
		lines = append(lines, "coil m"+strconv.Itoa(k))
	}
	m := machineOf(t, append(lines, "set m0 = a")...)
	if got, all, err := Tour(m); err != nil || !all || !slices.Equal(got, []int{0, 1, 0, 1}) {
		t.Errorf("%v, %t, %s", got, all, wrong(err))
	}
	for _, line := range []string{"m3 = !m3 & m4", "m10 = m10"} {
		if got, all, err := Tour(machineOf(t, append(slices.Clone(lines), line)...)); err != nil || !all || !slices.Equal(got, []int{0, 1}) {
			t.Errorf("%s: %v, %t, %s", line, got, all, wrong(err))
		}
	}
}

// Most ways, most of them far: nothing but the last input leads on, all others back.
func TestTourOfMostWays(t *testing.T) {
	lines := []string{"input a", "input b", "input c", "input d", "input e", "input f", "timer t 7", "timer s 7", "timer r 7"}
	all64 := "a & b & c & d & e & f"
	m := machineOf(t, append(lines, "run r = s & "+all64, "run s = t & "+all64, "run t = "+all64)...)
	got, all, err := Tour(m)
	if err != nil || !all {
		t.Fatalf("%t, %s", all, wrong(err))
	}
	gone := goneBy(t, m, got)
	if want := 64 * len(comeTo(t, m)); len(gone) != want {
		t.Errorf("%d of %d ways", len(gone), want)
	}
	longest := 0
	for _, leg := range legs(m, got) {
		longest = max(longest, len(leg))
	}
	if longest != 22 {
		t.Errorf("the longest one has %d inputs", longest)
	}
}

func TestTourOfNothing(t *testing.T) {
	if l, all, err := Tour(nil); err != error(api.ErrMissing) || l != nil || all {
		t.Errorf("%v, %t, %s", l, all, wrong(err))
	}
}

// Machines that Of did not make, or that were written into, say nothing, but all ends.
func TestTourNeverPanics(t *testing.T) {
	for _, next := range [][][]int{
		nil, {}, {nil}, {{}}, {{1}}, {{-1}}, {{0, 7, 0}}, {{1, 2}, nil, {0}}, {{-1 << 63, 1<<63 - 1}}, {{1, 1}, {5, 0}},
	} {
		Tour(&machine.Machine{Next: next})
		Tour(&machine.Machine{States: 9, Inputs: 9, Next: next})
	}
	m := machineOf(t, "input a", "coil m", "set m = a")
	m.Next[1] = nil
	Tour(m)
	m.Next = append(m.Next, []int{-5})
	m.Next[0][0] = 2
	Tour(m)
}

// What was handed out, and written into, is not told again, and the machine stays as it was.
func TestToursAreTheCallers(t *testing.T) {
	m := machineOf(t, "input a", "timer t 2", "run t = a")
	for range 2 {
		l, all, err := Tour(m)
		if err != nil || !all || !slices.Equal(l, []int{0, 1, 0, 1, 1, 0, 1, 1, 1}) {
			t.Fatalf("%v, %t, %s", l, all, wrong(err))
		}
		for k := range l {
			l[k] = 7
		}
	}
	other := machineOf(t, "input a", "timer t 2", "run t = a")
	if !slices.EqualFunc(m.Next, other.Next, slices.Equal[[]int]) {
		t.Errorf("the machine leads to %v now", m.Next)
	}
}

// comeTo is the states that are come to.
func comeTo(t *testing.T, m *machine.Machine) []int {
	t.Helper()
	far, err := reach.Far(m)
	if err != nil {
		t.Fatalf("Far: %s", wrong(err))
	}
	var states []int
	for s, scans := range far {
		if scans >= 0 {
			states = append(states, s)
		}
	}
	return states
}
