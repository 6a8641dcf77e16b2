package prop

import (
	"errors"
	"math"
	"reflect"
	"slices"
	"strconv"
	"strings"
	"testing"

	"signalcabin/api"
	"signalcabin/expr"
	"signalcabin/ladder"
	"signalcabin/machine"
)

// wrong writes an error: its number, and its place, if it has one.
func wrong(err error) string {
	s := strconv.Itoa(int(api.Tell(err)))
	var at *api.At
	if errors.As(err, &at) {
		s += " at " + strconv.Itoa(at.Place)
	}
	return s
}

func made(t *testing.T, lines ...string) *machine.Machine {
	t.Helper()
	p, err := ladder.Parse(strings.Join(lines, "\n"))
	if err != nil {
		t.Fatalf("Parse of %q: %s", lines, wrong(err))
	}
	return madeOf(t, p)
}

func madeOf(t *testing.T, p ladder.Program) *machine.Machine {
	t.Helper()
	m, err := machine.Of(p)
	if err != nil || m == nil {
		t.Fatalf("Of %q: %s", ladder.Text(p), wrong(err))
	}
	return m
}

func read(t *testing.T, text string) expr.Expr {
	t.Helper()
	e, err := expr.Parse(text)
	if err != nil {
		t.Fatalf("Parse of %q: %s", text, wrong(err))
	}
	return e
}

// shown writes a 0 or 1 for each of some bools, and a blank between lists.
func shown(lists [][]bool) string {
	var l []string
	for _, list := range lists {
		text := ""
		for _, is := range list {
			if is {
				text += "1"
			} else {
				text += "0"
			}
		}
		l = append(l, text)
	}
	return strings.Join(l, " ")
}

const (
	// m is set, and stays: 0 goes to 0 and 1, 1 to 1 and 1.
	latch = "input a\ncoil m\nset m = a"
	// t goes on with a, and falls back without: 0, 1, 2.
	timer = "input a\ntimer t 2\nrun t = a"
	// c counts with a, and stays at its count: 0, 1, 2.
	counter = "input a\ncounter c 2\ncount c = a"
	// A part for a: its edges are asked for. m is true as long as a has just risen.
	rising = "input a\ncoil m\nm = ^a"
	// m is never true, so states 1 and 3 are never come to.
	never = "coil m\ncoil k\nm = 0\nk = !k"
	// k is a scan later what a is now.
	later = "input a\ncoil m\ncoil k\nk = m\nm = a"
	// c is true behind each third scan.
	third = "counter c 3\nzero c = c\ncount c = 1"
	// e is true behind scan 21, and all that follow.
	long = "counter c 7\ncounter d 7\ncounter e 7\ncount e = d\ncount d = c\ncount c = 1"
)

// 6.1

func TestGood(t *testing.T) {
	for _, c := range []struct{ what, program, says, want string }{
		{"always", latch, "1", "11 11"},
		{"never", latch, "0", "00 00"},
		{"of no names", "", "1", "1"},
		{"an input", latch, "a", "01 01"},
		{"a coil, as it is behind the scan", latch, "m", "01 11"},
		{"the document's", latch, "!a | m", "11 11"},
		{"a coil that rises", latch, "^m", "01 00"},
		{"a coil that falls", "input a\ncoil m\nm = a", "~m", "00 10"},
		{"an input that was never true, since nobody asks for its edges", latch, "^a", "01 01"},
		{"an input that does not fall, since nobody asks for its edges", latch, "~a", "00 00"},
		{"an input that rises, whatever else is", rising, "^a", "01 00 01 00"},
		{"an input that falls", rising, "~a", "00 10 00 10"},
		{"a coil that rises with it, unless it was true", rising, "^m", "01 00 00 00"},
		{"a coil that falls, and was true in states 2 and 3", rising, "~m", "00 00 10 11"},
		{"a timer at its count", timer, "t", "00 01 01"},
		{"a timer that gets there", timer, "^t", "00 01 00"},
		{"a timer that falls back", timer, "~t", "00 00 10"},
		{"a counter at its count", counter, "c", "00 01 11"},
		{"a counter that gets there", counter, "^c", "00 01 00"},
		{"a counter that is at 0 again", "input a\ncounter c 1\ncount c = 1\nzero c = a", "~c", "00 01"},
		{"two inputs, the first one counting the least", "input a\ninput b", "a & !b", "0100"},
		{"states that nothing leads to, too", never, "m | k", "1 1 0 0"},
		{"what names were in states that nothing leads to", never, "~m", "0 1 0 1"},
		{"parts within parts", latch, "!(a & m) | (^m & !0)", "11 10"},
	} {
		good, err := Good(made(t, c.program), read(t, c.says))
		if got := shown(good); err != nil || got != c.want {
			t.Errorf("%s: %s, %s, not %s", c.what, got, wrong(err), c.want)
		}
	}
}

// missing are expressions that some names are not enough for, and none at all.
func missing(t *testing.T) []expr.Expr {
	l := []expr.Expr{nil}
	for _, text := range []string{"b", "^b", "~b", "!b", "!!^b", "a & b", "b & a", "a | b | a", "a & (m | !~b)", "1 | b", "0 & b", "aa", "m1", "a & z & m"} {
		l = append(l, read(t, text))
	}
	return append(l, expr.And{expr.Bit("a"), expr.Not{Of: expr.Rise("b")}})
}

func TestMissing(t *testing.T) {
	m, whole := made(t, latch), read(t, "!a | m")
	for k, e := range missing(t) {
		if good, err := Good(m, e); good != nil || err != error(api.ErrMissing) {
			t.Errorf("Good, %d: %v, %s", k, good, wrong(err))
		}
		if is, l, err := Check(m, e); is || l != nil || err != error(api.ErrMissing) {
			t.Errorf("Check, %d: %t, %v, %s", k, is, l, wrong(err))
		}
		if is, l, err := Answers(m, e, whole, 0); is || l != nil || err != error(api.ErrMissing) {
			t.Errorf("Answers to it, %d: %t, %v, %s", k, is, l, wrong(err))
		}
		if is, l, err := Answers(m, whole, e, 20); is || l != nil || err != error(api.ErrMissing) {
			t.Errorf("Answers by it, %d: %t, %v, %s", k, is, l, wrong(err))
		}
	}
	for _, e := range []expr.Expr{nil, expr.Const(true), whole} {
		if good, err := Good(nil, e); good != nil || err != error(api.ErrMissing) {
			t.Errorf("Good of no machine: %v, %s", good, wrong(err))
		}
		if is, l, err := Check(nil, e); is || l != nil || err != error(api.ErrMissing) {
			t.Errorf("Check of no machine: %t, %v, %s", is, l, wrong(err))
		}
		if is, l, err := Answers(nil, e, e, 1); is || l != nil || err != error(api.ErrMissing) {
			t.Errorf("Answers of no machine: %t, %v, %s", is, l, wrong(err))
		}
	}
	// A name that nothing else is asked of is one of the program all the same.
	if _, err := Good(made(t, "input a\ncoil m\ntimer t 1\ncounter c 1"), read(t, "^a & ~m | t & !c")); err != nil {
		t.Errorf("Good of names without rungs: %s", wrong(err))
	}
}

// 6.2

func TestCheck(t *testing.T) {
	for _, c := range []struct {
		what, program, says string
		holds               bool
		inputs              []int
	}{
		{"always", latch, "1", true, nil},
		{"never", latch, "0", false, []int{0}},
		{"of no names", "", "1", true, nil},
		{"of no names, never", "", "0", false, []int{0}},
		{"the document's that holds", latch, "!a | m", true, nil},
		{"the document's that doesn't", latch, "!m", false, []int{1}},
		{"behind scans alone, not at the start", "coil m\nm = 1", "m", true, nil},
		{"at the start, but not behind a scan", "coil m\nm = 1", "!m", false, []int{0}},
		{"behind two scans", timer, "!t", false, []int{1, 1}},
		{"behind two scans, the other one later", counter, "!c | a", false, []int{1, 1, 0}},
		{"in states that are never come to", never, "!m", true, nil},
		{"in states that are never come to, by what was", never, "!~m", true, nil},
		{"without inputs", never, "!k", false, []int{0}},
		{"without inputs, a scan later", never, "k", false, []int{0, 0}},
		{"far away", long, "!e", false, make([]int, 21)},
		{"an input was never true, since nobody asks for its edges", latch, "!a | ^a", true, nil},
		{"an input does not fall, since nobody asks for its edges", latch, "!~a", true, nil},
		{"an input was true", rising, "!a | ^a", false, []int{1, 1}},
		{"an input falls", rising, "!~a", false, []int{1, 0}},
		{"a coil is what its rung says", rising, "(m | !^a) & (!m | ^a)", true, nil},
		{"of like ones the least", "input a\ninput b\ncoil m\nset m = a | b", "!m", false, []int{1}},
		{"of like ones the least, at each scan", "input a\ninput b\ncounter c 2\ncount c = a | b", "!c", false, []int{1, 1}},
		{"of like ones the least, behind another", "input a\ninput b\ncoil m\ncoil k\nset k = m & a & b\nset m = b", "!k", false, []int{2, 3}},
		{"a short way of great inputs", "input a\ncounter c 3\ncount c = 1\ncount c = a\ncount c = a", "!c", false, []int{1}},
		{"less at first is less", "input a\ncoil m\ncoil k\ncoil s\nreset s = 1\nset s = m & !a | k & a & !m\nm = a\nset k = 1", "!s", false, []int{0, 1}},
	} {
		holds, inputs, err := Check(made(t, c.program), read(t, c.says))
		if err != nil || holds != c.holds || !slices.Equal(inputs, c.inputs) {
			t.Errorf("%s: %t, %v, %s, not %t, %v", c.what, holds, inputs, wrong(err), c.holds, c.inputs)
		}
	}
}

func TestAnswers(t *testing.T) {
	for _, c := range []struct {
		what, program, asks, says string
		n                         int
		holds                     bool
		inputs                    []int
	}{
		{"at once", latch, "a", "m", 0, true, nil},
		{"at once, and later on", latch, "a", "m", 20, true, nil},
		{"nobody asks", latch, "0", "0", 0, true, nil},
		{"nobody asks, for long", latch, "0", "0", 20, true, nil},
		{"nobody answers", latch, "1", "0", 0, false, []int{0}},
		{"nobody answers, for long", latch, "1", "0", 20, false, make([]int, 21)},
		{"nobody answers who asks first behind a scan", latch, "m", "0", 2, false, []int{1, 0, 0}},
		{"of no names", "", "1", "1", 0, true, nil},
		{"a scan later, so not at once", later, "a", "k", 0, false, []int{1}},
		{"a scan later", later, "a", "k", 1, true, nil},
		{"a scan later, and it stays so", later, "a", "k", 2, true, nil},
		{"a timer that need not run on", timer, "a", "t", 1, false, []int{1, 0}},
		{"a timer that need not run on, for long", timer, "a", "t", 3, false, []int{1, 0, 0, 0}},
		{"answered, if it is no longer asked for", timer, "a", "t | !a", 1, true, nil},
		{"answered, if it is no longer asked for, at once", timer, "a", "t | !a", 0, false, []int{1}},
		{"asked for again and again, two scans ahead", third, "1", "c", 2, true, nil},
		{"asked for again and again, one scan ahead", third, "1", "c", 1, false, []int{0, 0}},
		{"asked for again and again, now", third, "1", "c", 0, false, []int{0}},
		{"asked for behind an answer", third, "c", "!c", 1, true, nil},
		{"an answer ahead is none", third, "~c", "c", 1, false, []int{0, 0, 0, 0, 0}},
		{"an answer ahead is none, but the next one is", third, "~c", "c", 2, true, nil},
		{"the twentieth scan behind", long, "1", "e", 20, true, nil},
		{"the twentieth scan behind is too late", long, "1", "e", 19, false, make([]int, 20)},
		{"asked for in states that are never come to", never, "m", "0", 0, true, nil},
		{"asked for by what was never", never, "~m", "0", 0, true, nil},
		{"of like ones the least, behind the one that asks", "input a\ninput b", "b", "a | !b", 2, false, []int{2, 2, 2}},
		{"of like ones the least, ahead of the one that asks", "input a\ninput b\ncoil m\nm = a | b", "~m", "0", 0, false, []int{1, 0}},
		{"the first one that asks, not the last one", "input a\ninput b", "a", "b", 2, false, []int{1, 0, 0}},
		{"the second one that asks, if the first is answered", "input a\ncounter c 3\ncount c = a", "^c | a & !c", "!^c & (!c | !a)", 1, false, []int{1, 1, 1, 1}},
		{"as few as can be, though asked for later", "input a\ncoil m\ncoil k\nk = m\nset m = 1", "k | a", "!k", 1, false, []int{0, 0, 0}},
	} {
		holds, inputs, err := Answers(made(t, c.program), read(t, c.asks), read(t, c.says), c.n)
		if err != nil || holds != c.holds || !slices.Equal(inputs, c.inputs) {
			t.Errorf("%s: %t, %v, %s, not %t, %v", c.what, holds, inputs, wrong(err), c.holds, c.inputs)
		}
	}
}

func TestAnswersErrors(t *testing.T) {
	m, whole, none := made(t, latch), read(t, "m"), read(t, "zz")
	for _, c := range []struct {
		n    int
		want error
	}{
		{-1, api.ErrRange},
		{0, nil},
		{1, nil},
		{20, nil},
		{21, api.ErrRange},
		{math.MaxInt, api.ErrRange},
		{math.MinInt, api.ErrRange},
	} {
		if is, l, err := Answers(m, whole, whole, c.n); err != c.want || is != (err == nil) || len(l) > 0 {
			t.Errorf("%d: %t, %v, %s", c.n, is, l, wrong(err))
		}
		// Numbers are looked at ahead of what is missing.
		want := c.want
		if want == nil {
			want = api.ErrMissing
		}
		for k, ask := range []func() (bool, []int, error){
			func() (bool, []int, error) { return Answers(nil, whole, whole, c.n) },
			func() (bool, []int, error) { return Answers(m, nil, whole, c.n) },
			func() (bool, []int, error) { return Answers(m, whole, nil, c.n) },
			func() (bool, []int, error) { return Answers(m, none, whole, c.n) },
			func() (bool, []int, error) { return Answers(m, whole, none, c.n) },
		} {
			if is, l, err := ask(); is || l != nil || err != want {
				t.Errorf("%d, what is missing %d: %t, %v, %s", c.n, k, is, l, wrong(err))
			}
		}
	}
}

// Rules that hold everywhere

// Of machines that Of did not make nothing is said, but no call panics, and each ends.
func TestNothingPanics(t *testing.T) {
	whole, other := made(t, counter), made(t, latch)
	for _, m := range []*machine.Machine{
		{},
		{States: 9, Inputs: 9},
		{States: -1, Inputs: -1},
		{States: math.MaxInt, Inputs: math.MaxInt},
		{Program: whole.Program},
		{Program: whole.Program, States: 3, Inputs: 2},
		{Program: whole.Program, States: math.MaxInt, Inputs: math.MaxInt, Next: whole.Next},
		{Program: whole.Program, States: 2, Inputs: 2, Next: [][]int{nil, {0}}},
		{Program: whole.Program, States: 2, Inputs: 2, Next: [][]int{{1}, {0, 1, 1}}},
		{Program: whole.Program, States: 2, Inputs: 2, Next: [][]int{{1, 2}, {-1, 0}}},
		{Program: whole.Program, States: 2, Inputs: 2, Next: [][]int{{math.MaxInt, 1}, {math.MinInt, math.MaxInt}}},
	} {
		askAll(m, "c")
	}
	longer := *other
	longer.Program = whole.Program
	askAll(&longer, "c")
	longer.Program.Names = append(slices.Clone(whole.Program.Names), ladder.Name{Name: "z", Kind: ladder.Coil})
	askAll(&longer, "z")
	longer.Next = append(slices.Clone(longer.Next), []int{0, 1}, []int{0, 1, 2, 3})
	askAll(&longer, "z")
}

// askAll asks everything of a machine by expressions of a name, those too that Parse does not make.
func askAll(m *machine.Machine, name string) {
	bit := expr.Bit(name)
	all := []expr.Expr{nil, bit, expr.Const(true), expr.Not{}, expr.Not{Of: bit}, expr.And{}, expr.And(nil), expr.Or{nil}, expr.Or{bit, nil}, expr.Rise(""), &bit, (*expr.Bit)(nil)}
	for _, e := range all {
		Good(m, e)
		Check(m, e)
		for _, n := range []int{-1, 0, 3, 20} {
			for _, other := range all {
				Answers(m, e, other, n)
			}
		}
	}
}

func TestArgumentsStay(t *testing.T) {
	d := draw(11)
	for range 50 {
		p := d.program(4)
		m, before := madeOf(t, p), madeOf(t, p)
		a, b := d.expression(p.Names, 3), d.expression(p.Names, 3)
		texts := expr.Text(a) + expr.Text(b)
		good, _ := Good(m, a)
		_, l, _ := Check(m, a)
		_, k, _ := Answers(m, a, b, 2)
		for _, row := range good {
			for i := range row {
				row[i] = !row[i]
			}
		}
		for i := range l {
			l[i] = 99
		}
		for i := range k {
			k[i] = 99
		}
		if !reflect.DeepEqual(m, before) || expr.Text(a)+expr.Text(b) != texts {
			t.Fatalf("%q: what was handed in is written into", ladder.Text(p))
		}
	}
}

// What is handed out is written over, and behind its length: no other list of it, and no later answer changes.
func TestAnswersShareNothing(t *testing.T) {
	m, e := made(t, timer), read(t, "!t")
	good, _ := Good(m, e)
	for k := range good {
		good[k] = append(good[k][:0], false, false, false, false)[:2]
	}
	if got := shown(good); got != "00 00 00" {
		t.Errorf("lists share: %s", got)
	}
	for range 2 {
		_, l, _ := Check(m, e)
		_, k, _ := Answers(m, read(t, "a"), read(t, "t"), 1)
		again, _ := Good(m, e)
		if !slices.Equal(l, []int{1, 1}) || !slices.Equal(k, []int{1, 0}) || shown(again) != "11 10 10" {
			t.Errorf("%v, %v, %s", l, k, shown(again))
		}
		l[0], k[0], again[0][0] = 9, 9, false
	}
}

// The greatest machine, of which all states are come to, for as long as can be.
func TestGreatestMachine(t *testing.T) {
	m := made(t, "input a\ninput b\ninput c\ninput d\ninput e\ninput f",
		"timer p 7\ntimer q 7\ncounter r 7\ncounter s 7",
		"run p = a\nrun q = b & p\ncount r = c\nzero r = e\ncount s = d & r\nzero s = f")
	if m.States != api.MaxStates || m.Inputs != 1<<api.MaxInputs {
		t.Fatalf("%d states, %d inputs", m.States, m.Inputs)
	}
	good, err := Good(m, read(t, "^q & s"))
	if err != nil || len(good) != m.States || len(good[m.States-1]) != m.Inputs {
		t.Errorf("Good: %d, %s", len(good), wrong(err))
	}
	if holds, l, err := Check(m, read(t, "!q | a & b & p")); !holds || len(l) > 0 || err != nil {
		t.Errorf("Check: %t, %v, %s", holds, l, wrong(err))
	}
	if holds, l, err := Check(m, read(t, "!q | !s")); holds || len(l) != 13 || err != nil {
		t.Errorf("Check: %t, %v, %s", holds, l, wrong(err))
	}
	if holds, l, err := Answers(m, read(t, "a"), read(t, "p | !a"), 6); !holds || len(l) > 0 || err != nil {
		t.Errorf("Answers: %t, %v, %s", holds, l, wrong(err))
	}
	// s is true behind scan 13 at the earliest; then it may be asked for, and p never comes.
	if holds, l, err := Answers(m, read(t, "s"), read(t, "p"), 20); holds || len(l) != 33 || slices.Max(l[13:]) != 0 || err != nil {
		t.Errorf("Answers: %t, %v, %s", holds, l, wrong(err))
	}
}
