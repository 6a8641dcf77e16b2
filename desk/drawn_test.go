package desk

import (
	"fmt"
	"slices"
	"strings"
	"testing"

	"signalcabin/api"
	"signalcabin/block"
	"signalcabin/cover"
	"signalcabin/expr"
	"signalcabin/gate"
	"signalcabin/induct"
	"signalcabin/ladder"
	"signalcabin/machine"
	"signalcabin/prop"
	"signalcabin/reach"
	"signalcabin/scan"
	"signalcabin/slice"
)

// Held against the layers themselves, of drawn programs and lines

// draw gives numbers that look drawn, the same each time.
type draw uint64

func (d *draw) below(n int) int {
	*d = *d*6364136223846793005 + 1442695040888963407
	return int(uint64(*d>>33) % uint64(n))
}

func (d *draw) of(l ...string) string { return l[d.below(len(l))] }

// name is one of a program's, or, now and then, none of it, or no name.
func (d *draw) name() string {
	return d.of("a", "b", "m", "m", "n", "t", "c", "a", "m", "n", "t", "c", "a", "b", "zz", "a", "m", "n", "t", "c")
}

func (d *draw) expression(deep int) string {
	name := d.name()
	if deep == 0 {
		return d.of("0", "1", "^"+name, "~"+name, name, name, name, name, "!"+name, "Bad", "& "+name)
	}
	x, y := d.expression(deep-1), d.expression(deep-1)
	return d.of(x, "!("+x+")", "("+x+") & ("+y+")", x+" | "+y, "! "+y, y)
}

func (d *draw) program() string {
	lines := []string{"input a", "coil m", "coil n", fmt.Sprint("timer t ", 1+d.below(3)), fmt.Sprint("counter c ", 1+d.below(3)), "input b"}[:5+d.below(2)]
	for range d.below(7) {
		lines = append(lines, d.of("m", "n", "set m", "reset m", "set n", "reset n", "run t", "count c", "zero c")+" = "+strings.NewReplacer("Bad", "1", "zz", "a", "& ", "").Replace(d.expression(d.below(3))))
	}
	return "program " + strings.Join(lines, d.of(";", "; ", " ;"))
}

// line is one of all forms, as it may be, or nearly.
func (d *draw) line() string {
	e, f, number := d.expression(d.below(3)), d.expression(d.below(2)), d.of("0", "1", "2", "3", "5", "17", "50", "-1", "x", "07")
	return d.of(
		d.program(), d.program(), "program coil m; m = "+e, "program x",
		"lines", "states", "far", "tour", "tidy", "help", "help", "", "clear", "lines x",
		"scan 1", "scan 0", "scan 11", "scan 10", "scan 01", "scan", "scan 2", "scan 0 1",
		"path "+number, "path "+number, "path", "check "+e, "check "+e, "induct "+number+" "+e, "induct "+number+" "+e, "induct", "answers "+number+" "+e+" , "+f, "answers "+number+" "+e+","+f, "answers "+number+" "+e,
		"blocks "+d.name(), "blocks "+d.name()+" "+d.name(), "slice "+d.name()+" m t", "slice "+d.name()+" n a c", "pairs "+e, "pairs "+e, "solve "+e, "solve "+e, "same "+e+" , "+f, "same "+e+", "+e)
}

// asked is what a session is held against: each line by the layers' own calls.
type asked struct {
	program ladder.Program
	state   scan.State
}

// shown writes a list as it should be told; or an error.
func shown(err error, l ...any) string {
	if err != nil {
		return fmt.Sprint("error ", int(api.Tell(err)))
	}
	s := fmt.Sprintln(l...)
	return strings.Trim(strings.NewReplacer("[", "", "]", "", "true", "1", "false", "0").Replace(s), " \n")
}

// flags writes bools without blanks.
func flags(l []bool) string { return strings.ReplaceAll(shown(nil, l), " ", "") }

// made is the program from its start.
func (k *asked) made(p ladder.Program, err error) string {
	if err == nil {
		k.program, k.state = p, scan.Start(p)
	}
	return shown(err, len(p.Names), len(p.Rungs))
}

// whole is a line without a number and expressions; ok is whether it is one.
func (k *asked) whole(text string) (told string, ok bool) {
	m, err := machine.Of(k.program)
	switch text {
	case "":
		return "ok", true
	case "clear":
		k.made(ladder.Program{}, nil)
		return "clear", true
	case "help":
		return helpText, true
	case "tidy":
		return k.made(slice.Tidy(k.program)), true
	case "lines":
		return strings.Join(strings.Split(strings.TrimSpace(ladder.Text(k.program)), "\n"), "; "), true
	case "states":
		return shown(err, m.States, m.Inputs), true
	case "far":
		l, err := reach.Far(m)
		return shown(err, l), true
	case "tour":
		l, all, err := cover.Tour(m)
		if err == nil && !all {
			l = append(l, -1)
		}
		return shown(err, l), true
	}
	return "", false
}

func (k *asked) tell(text string) string {
	if told, ok := k.whole(text); ok {
		return told
	}
	first, rest, _ := strings.Cut(text, " ")
	switch first {
	case "program":
		return k.made(ladder.Parse(strings.ReplaceAll(rest, ";", "\n")))
	case "slice":
		return k.made(slice.Of(k.program, strings.Fields(rest)))
	case "scan":
		return k.scanned(rest)
	case "blocks":
		m, _ := machine.Of(k.program)
		table, err := block.Of(m, strings.Fields(rest))
		if err != nil {
			return shown(err)
		}
		l, err := block.Blocks(table)
		return shown(err, l)
	case "pairs", "solve", "check":
		e, err := expr.Parse(rest)
		if err != nil {
			return shown(err)
		}
		return k.one(first, e)
	case "same":
		return k.two(first, 0, rest)
	case "path", "induct", "answers":
		return k.numbered(first, rest)
	}
	return "error 3"
}

func (k *asked) scanned(bits string) string {
	if strings.Trim(bits, "01") != "" {
		return "error 3"
	}
	var in []bool
	for _, bit := range bits {
		in = append(in, bit == '1')
	}
	s, err := scan.Step(k.program, k.state, in)
	if err != nil {
		return shown(err)
	}
	k.state = s
	return shown(nil, flags(s.Is), s.Count)
}

// one is a line of one expression.
func (k *asked) one(first string, e expr.Expr) string {
	switch first {
	case "pairs":
		var l []string
		pairs, err := cover.Pairs(e)
		for _, p := range pairs {
			l = append(l, fmt.Sprintf("%s %d %d", p.Name, p.Off, p.On))
		}
		return shown(err, strings.Join(l, ", "))
	case "solve":
		c, literal, err := gate.Of(e)
		if err != nil {
			return shown(err)
		}
		c.All = append(c.All, []int{literal})
		values, err := gate.Solve(c)
		if err != nil {
			return shown(err)
		}
		return flags(values[:len(slices.Concat(expr.Names(e), expr.Edges(e)))])
	}
	m, _ := machine.Of(k.program)
	return seen(prop.Check(m, e))
}

func seen(holds bool, inputs []int, err error) string {
	if holds {
		return shown(err, "holds")
	}
	return shown(err, inputs)
}

// numbered is a line that begins with a number.
func (k *asked) numbered(first, rest string) string {
	word, rest, more := strings.Cut(rest, " ")
	n := slices.Index([]string{"0", "1", "2", "3", "5", "17", "50", "-1"}, word)
	if n < 0 || more == (first == "path") {
		return "error 3"
	}
	n = []int{0, 1, 2, 3, 5, 17, 50, -1}[n]
	m, _ := machine.Of(k.program)
	switch first {
	case "path":
		l, err := reach.Path(m, n)
		return shown(err, l)
	case "induct":
		e, err := expr.Parse(rest)
		if err != nil {
			return shown(err)
		}
		v, err := induct.Check(m, e, n)
		return shown(err, v.Code, v.K, v.Path)
	}
	return k.two(first, n, rest)
}

// two is a line of two expressions.
func (k *asked) two(first string, n int, rest string) string {
	at := strings.Index(rest, ",")
	if at < 0 {
		return "error 3"
	}
	a, err := expr.Parse(rest[:at])
	if err != nil {
		return shown(err)
	}
	b, err := expr.Parse(rest[at+1:])
	if err != nil {
		return shown(err)
	}
	if first == "same" {
		same, err := gate.Same(a, b)
		return shown(err, same)
	}
	m, _ := machine.Of(k.program)
	return seen(prop.Answers(m, a, b, n))
}

// session is a drawn one: a program first.
func (d *draw) session() []string {
	l := []string{d.program()}
	for range 1 + d.below(40) {
		l = append(l, d.line())
	}
	return l
}

// toldOf is what a session tells of lines, one by one.
func toldOf(t *testing.T, lines []string) []string {
	t.Helper()
	l := strings.Split(Session(strings.Join(lines, "\n")+"\n"), "\n")
	if len(l) != len(lines)+1 || l[len(lines)] != "" {
		t.Fatalf("%d lines are answered by %q", len(lines), l)
	}
	return l[:len(lines)]
}

func TestDrawnSessions(t *testing.T) {
	d := draw(15)
	wrong, right := map[string]int{}, map[string]int{}
	for range 400 {
		lines := d.session()
		told := toldOf(t, lines)
		var k asked
		for n, text := range lines {
			want := k.tell(text)
			if told[n] != want {
				t.Fatalf("%q: line %d, %q: %q, not %q", lines[:n], n, text, told[n], want)
			}
			first, _, _ := strings.Cut(text, " ")
			if strings.HasPrefix(want, "error") {
				wrong[first]++
			} else {
				right[first]++
			}
		}
	}
	for _, first := range strings.Fields(helpText) {
		if right[first] < 20 {
			t.Errorf("%s: %d are right, %d are wrong", first, right[first], wrong[first])
		}
	}
}

// A line that is wrong changes nothing: without all such lines the others tell the same.
func TestDrawnErrorsChangeNothing(t *testing.T) {
	d := draw(16)
	for range 200 {
		lines := d.session()
		told := toldOf(t, lines)
		var kept, want []string
		for n, text := range told {
			if !strings.HasPrefix(text, "error ") {
				kept, want = append(kept, lines[n]), append(want, text)
			}
		}
		if kept == nil {
			continue
		}
		if got := toldOf(t, kept); !slices.Equal(got, want) {
			t.Errorf("%q: %q, not %q", kept, got, want)
		}
	}
}

// Behind clear all is as at first, and blanks may be many.
func TestDrawnSessionsOneBehindTheOther(t *testing.T) {
	d := draw(17)
	for range 100 {
		one, two := d.session(), d.session()
		wide := slices.Clone(two)
		for k := range wide {
			wide[k] = strings.Repeat(" ", d.below(3)) + strings.ReplaceAll(wide[k], " ", strings.Repeat(" ", 1+d.below(3))) + strings.Repeat(" ", d.below(3))
		}
		want := slices.Concat(toldOf(t, one), []string{"clear"}, toldOf(t, two))
		if got := toldOf(t, slices.Concat(one, []string{"clear"}, wide)); !slices.Equal(got, want) {
			t.Errorf("%q: %q, not %q", slices.Concat(one, wide), got, want)
		}
	}
}

// Whatever is written, each line is answered by one.
func TestDrawnBytes(t *testing.T) {
	d := draw(18)
	for range 600 {
		b := []byte(strings.Join(d.session(), "\n"))
		for range d.below(30) {
			at := d.below(len(b))
			switch d.below(3) {
			case 0:
				b[at] = " \n,;01=()!&|^~-\x00\xff"[d.below(17)]
			case 1:
				b = slices.Insert(b, at, byte(d.below(256)))
			case 2:
				b = slices.Delete(b, at, min(len(b), at+1+d.below(4)))
			}
			if len(b) == 0 {
				b = []byte{'\n'}
			}
		}
		asks := strings.Count(strings.TrimSuffix(string(b), "\n"), "\n") + 1
		if got := Session(string(b)); strings.Count(got, "\n") != asks || !strings.HasSuffix(got, "\n") {
			t.Errorf("%q: %d lines, answered by %q", b, asks, got)
		}
	}
}
