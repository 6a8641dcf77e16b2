package induct

import (
	"errors"
	"math"
	"reflect"
	"slices"
	"strconv"
	"strings"
	"testing"

	"signalcabin/api"
	"signalcabin/expr"
	"signalcabin/ladder"
	"signalcabin/machine"
	"signalcabin/prop"
)

// wrong writes an error: its number, and its place, if it has one.
func wrong(err error) string {
	s := strconv.Itoa(int(api.Tell(err)))
	var at *api.At
	if errors.As(err, &at) {
		s += " at " + strconv.Itoa(at.Place)
	}
	return s
}

func made(t *testing.T, lines ...string) *machine.Machine {
	t.Helper()
	p, err := ladder.Parse(strings.Join(lines, "\n"))
	if err != nil {
		t.Fatalf("Parse of %q: %s", lines, wrong(err))
	}
	return madeOf(t, p)
}

func madeOf(t *testing.T, p ladder.Program) *machine.Machine {
	t.Helper()
	m, err := machine.Of(p)
	if err != nil || m == nil {
		t.Fatalf("Of %q: %s", ladder.Text(p), wrong(err))
	}
	return m
}

func read(t *testing.T, text string) expr.Expr {
	t.Helper()
	e, err := expr.Parse(text)
	if err != nil {
		t.Fatalf("Parse of %q: %s", text, wrong(err))
	}
	return e
}

// same says whether verdicts are; a list without anything may be nil or not.
func same(v, w Verdict) bool {
	return v.Code == w.Code && v.K == w.K && slices.Equal(v.Path, w.Path)
}

func refuted(path ...int) Verdict { return Verdict{Refuted, len(path), path} }
func proved(k int) Verdict        { return Verdict{Proved, k, nil} }
func open(k int) Verdict          { return Verdict{Open, k, nil} }

const (
	// m is set, and stays: 0 goes to 0 and 1, 1 to 1 and 1.
	latch = "input a\ncoil m\nset m = a"
	// t goes on with a, and falls back without: 0, 1, 2.
	timer = "input a\ntimer t 2\nrun t = a"
	// A part for a: its edges are asked for. m is true as long as a has just risen.
	rising = "input a\ncoil m\nm = ^a"
	// z is what y was, y what x was, x what g is; g is never come to. Then z is true behind the third scan from there.
	chain = "coil g\ncoil x\ncoil y\ncoil z\nz = y\ny = x\nx = g"
	// g is never come to; once it were, m could be true behind any scan, however late.
	waiting = "input a\ncoil g\ncoil m\nm = g & a"
	// While r is true, c is true behind each fifth scan, d rises behind each fifth of these, and e is true from the second of those on: behind scan 50. n is true a scan later.
	fifty = "counter c 5\ncounter d 5\ncounter e 2\ncoil r\ncoil n\nn = e\nzero c = c\ncount c = r\nzero d = c & d\ncount d = c\ncount e = ^d"
)

// 8.1

func TestCodes(t *testing.T) {
	if Proved != 1 || Refuted != 2 || Open != 3 {
		t.Errorf("%d, %d, %d", Proved, Refuted, Open)
	}
}

func TestRefuted(t *testing.T) {
	for _, c := range []struct {
		what, program, says string
		most                int
		want                Verdict
	}{
		{"never so", latch, "0", 1, refuted(0)},
		{"never so, without inputs", "", "0", 1, refuted(0)},
		{"the document's that doesn't hold", latch, "!m", 1, refuted(1)},
		{"more may be tried", latch, "!m", 50, refuted(1)},
		{"at the start alone", "coil m\nm = 1", "!m", 1, refuted(0)},
		{"behind two scans", timer, "!t", 2, refuted(1, 1)},
		{"behind two scans, more may be tried", timer, "!t", 3, refuted(1, 1)},
		{"behind two scans, one is tried", timer, "!t", 1, open(1)},
		{"of like ones the least", "input a\ninput b\ncoil m\nset m = a | b", "!m", 5, refuted(1)},
		{"of like ones the least, behind another", "input a\ninput b\ncoil m\ncoil k\nset k = m & a & b\nset m = b", "!k", 5, refuted(2, 3)},
		{"less at first is less", "input a\ncoil m\ncoil k\ncoil s\nreset s = 1\nset s = m & !a | k & a & !m\nm = a\nset k = 1", "!s", 5, refuted(0, 1)},
		{"an input falls", rising, "!~a", 2, refuted(1, 0)},
		{"it is so again later", "coil m\nm = !m", "!m", 50, refuted(0)},
		{"states that are never come to fail sooner", "coil m\ncoil k\ncoil g\nk = m | g\nm = 1", "!k", 2, refuted(0, 0)},
	} {
		v, err := Check(made(t, c.program), read(t, c.says), c.most)
		if err != nil || !same(v, c.want) {
			t.Errorf("%s: %v, %s, not %v", c.what, v, wrong(err), c.want)
		}
	}
}

func TestProved(t *testing.T) {
	for _, c := range []struct {
		what, program, says string
		most                int
		want                Verdict
	}{
		{"always so", latch, "1", 1, proved(1)},
		{"always so, without inputs", "", "1", 1, proved(1)},
		{"always so, as few as can be", latch, "1", 50, proved(1)},
		{"the document's that holds", latch, "!a | m", 1, proved(1)},
		{"behind scans alone, not at the start", "coil m\nm = 1", "m", 1, proved(1)},
		{"not so from elsewhere, but nothing good leads there", "coil m\nset m = m", "!m", 1, proved(1)},
		{"not so behind the first scan, or the second from elsewhere", chain, "!x & !y", 1, proved(1)},
		{"not so behind the second scan from elsewhere, one is tried", chain, "!y", 1, open(1)},
		{"not so behind the second scan from elsewhere", chain, "!y", 2, proved(2)},
		{"not so behind the third scan from elsewhere, one is tried", chain, "!z", 1, open(1)},
		{"not so behind the third scan from elsewhere, two are tried", chain, "!z", 2, open(2)},
		{"not so behind the third scan from elsewhere", chain, "!z", 3, proved(3)},
		{"not so behind the third scan from elsewhere, more may be tried", chain, "!z", 50, proved(3)},
		{"elsewhere one may wait", waiting, "!m", 1, open(1)},
		{"elsewhere one may wait for long", waiting, "!m", 49, open(49)},
		{"elsewhere one may wait for ever", waiting, "!m", 50, open(50)},
		{"what was is told", "coil m\nm = 0", "!~m", 1, proved(1)},
		{"an input was never true, since nobody asks for its edges", latch, "!a | ^a", 1, proved(1)},
		{"a coil is what its rung says", rising, "(m | !^a) & (!m | ^a)", 3, proved(1)},
		{"a timer is at its count by a alone", timer, "!t | a", 1, proved(1)},
	} {
		v, err := Check(made(t, c.program), read(t, c.says), c.most)
		if err != nil || !same(v, c.want) {
			t.Errorf("%s: %v, %s, not %v", c.what, v, wrong(err), c.want)
		}
	}
}

// 50 scans in a row are the most that may be tried.
func TestFifty(t *testing.T) {
	// r is true from the first scan on, or, if nothing sets it, from elsewhere alone.
	runs, rests := made(t, "input a", fifty, "r = 1"), made(t, fifty)
	starts := made(t, strings.Replace(fifty, "count c = r", "count c = 1", 1))
	for _, c := range []struct {
		what string
		m    *machine.Machine
		says string
		most int
		want Verdict
	}{
		{"behind scan 50, 50 are tried", starts, "!e", 50, refuted(make([]int, 50)...)},
		{"behind scan 50, 49 are tried", starts, "!e", 49, open(49)},
		{"behind scan 51, 50 are tried", starts, "!n", 50, open(50)},
		{"behind scan 51, of one more", runs, "!e", 50, open(50)},
		{"from elsewhere behind scan 50, 50 are tried", rests, "!e", 50, proved(50)},
		{"from elsewhere behind scan 50, 49 are tried", rests, "!e", 49, open(49)},
		{"from elsewhere behind scan 51, 50 are tried", rests, "!n", 50, open(50)},
	} {
		v, err := Check(c.m, read(t, c.says), c.most)
		if err != nil || !same(v, c.want) {
			t.Errorf("%s: %v, %s, not %v", c.what, v, wrong(err), c.want)
		}
	}
}

func TestMissing(t *testing.T) {
	m := made(t, latch)
	l := []expr.Expr{nil, expr.And{expr.Bit("a"), expr.Not{Of: expr.Rise("b")}}}
	for _, text := range []string{"b", "^b", "~b", "!!^b", "a & b", "b | a", "1 | b", "0 & b", "aa", "m1"} {
		l = append(l, read(t, text))
	}
	// What is missing is told ahead of numbers.
	for _, most := range []int{1, 50, 0, 51, -1, math.MaxInt, math.MinInt} {
		for k, e := range l {
			if v, err := Check(m, e, most); !reflect.DeepEqual(v, Verdict{}) || err != error(api.ErrMissing) {
				t.Errorf("%d, %d: %v, %s", k, most, v, wrong(err))
			}
		}
		for _, e := range []expr.Expr{nil, expr.Const(true), expr.Bit("a"), expr.Bit("b")} {
			if v, err := Check(nil, e, most); !reflect.DeepEqual(v, Verdict{}) || err != error(api.ErrMissing) {
				t.Errorf("no machine, %d: %v, %s", most, v, wrong(err))
			}
		}
	}
}

func TestRange(t *testing.T) {
	m := made(t, latch)
	for _, e := range []expr.Expr{expr.Const(false), expr.Const(true), expr.Bit("m")} {
		for _, most := range []int{0, -1, 51, 52, 100, math.MaxInt, math.MinInt} {
			if v, err := Check(m, e, most); !reflect.DeepEqual(v, Verdict{}) || err != error(api.ErrRange) {
				t.Errorf("%d: %v, %s", most, v, wrong(err))
			}
		}
		for most := 1; most <= 50; most++ {
			if v, err := Check(m, e, most); v.K != 1 || err != nil {
				t.Errorf("%d: %v, %s", most, v, wrong(err))
			}
		}
	}
}

// Rules that hold everywhere

// Of machines that Of did not make nothing is said, but no call panics, and each ends.
func TestNothingPanics(t *testing.T) {
	whole, other := made(t, timer), made(t, latch)
	for _, m := range []*machine.Machine{
		{},
		{States: 9, Inputs: 9},
		{States: -1, Inputs: -1},
		{States: math.MaxInt, Inputs: math.MaxInt},
		{Program: whole.Program},
		{Program: whole.Program, States: math.MaxInt, Inputs: math.MaxInt, Next: whole.Next},
		{Program: whole.Program, States: 2, Inputs: 2, Next: [][]int{nil, {0}}},
		{Program: whole.Program, States: 2, Inputs: 2, Next: [][]int{{1}, {0, 1, 1}}},
		{Program: whole.Program, States: 2, Inputs: 2, Next: [][]int{{1, 2}, {-1, 0}}},
		{Program: whole.Program, States: 2, Inputs: 2, Next: [][]int{{math.MaxInt, 1}, {math.MinInt, math.MaxInt}}},
	} {
		askAll(m, "t")
	}
	longer := *other
	longer.Program = whole.Program
	longer.Next = append(slices.Clone(longer.Next), []int{0, 1}, []int{0, 1, 2, 3, 4})
	askAll(&longer, "t")
}

// askAll asks by expressions of a name, those too that Parse does not make.
func askAll(m *machine.Machine, name string) {
	bit := expr.Bit(name)
	for _, e := range []expr.Expr{nil, bit, expr.Const(true), expr.Not{}, expr.Not{Of: bit}, expr.And{}, expr.And(nil), expr.Or{nil}, expr.Or{bit, nil}, expr.Rise(""), &bit, (*expr.Bit)(nil)} {
		for _, most := range []int{-1, 0, 1, 2, 50, 51} {
			Check(m, e, most)
		}
	}
}

func TestArgumentsStay(t *testing.T) {
	d := draw(81)
	for range 50 {
		p := d.program(4)
		m, before := madeOf(t, p), madeOf(t, p)
		e := d.expression(p.Names, 3)
		text := expr.Text(e)
		v, _ := Check(m, e, 9)
		for i := range v.Path {
			v.Path[i] = 99
		}
		if !reflect.DeepEqual(m, before) || expr.Text(e) != text {
			t.Fatalf("%q: what was handed in is written into", ladder.Text(p))
		}
	}
}

// What is handed out is written over: no later answer changes.
func TestPathIsFresh(t *testing.T) {
	m, e := made(t, timer), read(t, "!t")
	for range 3 {
		v, err := Check(m, e, 2)
		if err != nil || !same(v, refuted(1, 1)) {
			t.Fatalf("%v, %s", v, wrong(err))
		}
		v.Path[0], v.Path[1] = 9, 9
		_ = append(v.Path[:1], 7, 7, 7)
	}
}

// The greatest machine, asked for as long as can be.
func TestGreatestMachine(t *testing.T) {
	m := made(t, "input a\ninput b\ninput c\ninput d\ninput e\ninput f",
		"timer p 7\ntimer q 7\ncounter r 7\ncounter s 7",
		"run p = a\nrun q = b & p\ncount r = c\nzero r = e\ncount s = d & r\nzero s = f")
	if m.States != api.MaxStates || m.Inputs != 1<<api.MaxInputs {
		t.Fatalf("%d states, %d inputs", m.States, m.Inputs)
	}
	for _, c := range []struct {
		says string
		code int
		k    int
	}{
		{"!q | a & b & p", Proved, 1},
		{"!q | !s", Refuted, 13},
	} {
		v, err := Check(m, read(t, c.says), 50)
		if err != nil || v.Code != c.code || v.K != c.k {
			t.Errorf("%s: %v, %s", c.says, v, wrong(err))
		}
	}
	// Behind scan 13 at the earliest, so 12 are not enough.
	if v, err := Check(m, read(t, "!q | !s"), 12); err != nil || !same(v, open(12)) {
		t.Errorf("%v, %s", v, wrong(err))
	}
}

// What is told is what holds behind each scan, whatever the machine is.
func TestVerdictsAreSo(t *testing.T) {
	d := draw(82)
	var codes [Open + 1]int
	for range 500 {
		p := d.program(5)
		m, e := madeOf(t, p), d.claim(p.Names)
		holds, inputs, err := prop.Check(m, e)
		if err != nil {
			t.Fatalf("prop.Check: %s", wrong(err))
		}
		last := Verdict{Code: Open}
		for most := 1; most <= 50; most++ {
			v, err := Check(m, e, most)
			// Once it is told, more scans tell the same.
			if err != nil || last.Code != Open && !same(v, last) || v.Code == Open && (v.K != most || len(v.Path) > 0) {
				t.Fatalf("%q, %s, %d: %v, %s, behind %v", ladder.Text(p), expr.Text(e), most, v, wrong(err), last)
			}
			// It is told by as few as can be.
			if v.Code != Open && last.Code == Open && v.K != most {
				t.Fatalf("%q, %s, %d: %v", ladder.Text(p), expr.Text(e), most, v)
			}
			last = v
		}
		if last.Code == Proved && !holds || last.Code == Refuted && (holds || !slices.Equal(inputs, last.Path)) || !holds && len(inputs) <= 50 && last.Code != Refuted {
			t.Fatalf("%q, %s: %v; %t, %v", ladder.Text(p), expr.Text(e), last, holds, inputs)
		}
		codes[last.Code]++
	}
	if codes[Proved] < 50 || codes[Refuted] < 50 || codes[Open] < 10 {
		t.Errorf("the draw is too poor: %v", codes)
	}
}
