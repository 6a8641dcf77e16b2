package slice

import (
	"errors"
	"reflect"
	"slices"
	"strconv"
	"strings"
	"testing"

	"signalcabin/api"
	"signalcabin/expr"
	"signalcabin/ladder"
)

// wrong writes an error: its number, and its place, if it has one.
func wrong(err error) string {
	s := strconv.Itoa(int(api.Tell(err)))
	var at *api.At
	if errors.As(err, &at) {
		s += " at " + strconv.Itoa(at.Place)
	}
	return s
}

func at(what api.Errno, place int) string { return wrong(&api.At{Err: what, Place: place}) }

func lines(l ...string) string { return strings.Join(l, "\n") + "\n" }

// read is the program of some lines.
func read(t *testing.T, l ...string) ladder.Program {
	t.Helper()
	p, err := ladder.Parse(lines(l...))
	if err != nil {
		t.Fatalf("Parse of %q: %s", l, wrong(err))
	}
	return p
}

// plant has every kind of name and of rung. Its names: 0 z, 1 go, 2 lamp, 3 m, 4 stop, 5 t, 6 c, 7 alone.
func plant(t *testing.T) ladder.Program {
	t.Helper()
	return read(t,
		"input z", "input go", "coil lamp", "coil m", "input stop", "timer t 3", "counter c 2", "coil alone",
		"set m = ^go",
		"count c = ~t & m",
		"lamp = t | c & !z",
		"reset m = stop",
		"run t = m",
		"zero c = !(z | 0 & alone)",
	)
}

func TestNeeds(t *testing.T) {
	p := plant(t)
	for _, c := range []struct {
		names string
		want  []int
	}{
		{"", nil},
		{"z", []int{0}},
		{"stop go", []int{1, 4}},
		{"alone", []int{7}},
		{"m", []int{1, 3, 4}},
		{"t", []int{1, 3, 4, 5}},
		{"c", []int{0, 1, 3, 4, 5, 6, 7}},
		{"lamp", []int{0, 1, 2, 3, 4, 5, 6, 7}},
		{"alone m z", []int{0, 1, 3, 4, 7}},
		{"z m alone", []int{0, 1, 3, 4, 7}},
		{"m m alone m alone", []int{1, 3, 4, 7}},
		{"go m", []int{1, 3, 4}},
		{"t m", []int{1, 3, 4, 5}},
		{"z go lamp m stop t c alone", []int{0, 1, 2, 3, 4, 5, 6, 7}},
	} {
		if got, err := Needs(p, strings.Fields(c.names)); err != nil || !slices.Equal(got, c.want) {
			t.Errorf("of %q: %v, %s, not %v", c.names, got, wrong(err), c.want)
		}
	}
}

// Rungs of each kind bring what they name, wherever it stands in the expression.
func TestNeedsByEachRung(t *testing.T) {
	heads := []struct{ head, name string }{{"", "m"}, {"set ", "m"}, {"reset ", "m"}, {"run ", "t"}, {"count ", "c"}, {"zero ", "c"}}
	ifs := []struct {
		text string
		want string
	}{
		{"0", ""}, {"1", ""}, {"a", "a"}, {"^a", "a"}, {"~b", "b"}, {"!a", "a"}, {"!!(~a)", "a"}, {"a & b", "a b"}, {"^b | 0", "b"},
		{"0 & a", "a"}, {"1 | b", "b"}, {"a & !a", "a"}, {"!(a | !(b & 1))", "a b"},
	}
	for _, h := range heads {
		for _, e := range ifs {
			p := read(t, "coil m", "timer t 1", "counter c 1", "input a", "coil b", h.head+h.name+" = "+e.text)
			want := []int{p.Number(h.name)}
			for _, name := range strings.Fields(e.want) {
				want = append(want, p.Number(name))
			}
			if got, err := Needs(p, []string{h.name}); err != nil || !slices.Equal(got, want) {
				t.Errorf("%s%s = %s: %v, %s, not %v", h.head, h.name, e.text, got, wrong(err), want)
			}
		}
	}
}

// All rungs of a name count, and none of another one, though it names this one.
func TestNeedsByRungsOfTheName(t *testing.T) {
	p := read(t, "coil a", "coil b", "coil c", "coil d", "coil e", "b = a", "c = d", "set b = c", "e = b", "reset b = b")
	for name, want := range map[string][]int{"a": {0}, "b": {0, 1, 2, 3}, "c": {2, 3}, "d": {3}, "e": {0, 1, 2, 3, 4}} {
		if got, err := Needs(p, []string{name}); err != nil || !slices.Equal(got, want) {
			t.Errorf("of %s: %v, %s, not %v", name, got, wrong(err), want)
		}
	}
}

func TestNeedsRound(t *testing.T) {
	p := read(t, "coil x", "coil y", "coil z", "coil w", "x = ^x", "y = z", "z = w & y", "w = y")
	for name, want := range map[string][]int{"x": {0}, "y": {1, 2, 3}, "z": {1, 2, 3}, "w": {1, 2, 3}} {
		if got, err := Needs(p, []string{name}); err != nil || !slices.Equal(got, want) {
			t.Errorf("of %s: %v, %s, not %v", name, got, wrong(err), want)
		}
	}
}

// chain has as many names as may be, each of which asks for the next one, or the one ahead.
func chain(step int) ladder.Program {
	var p ladder.Program
	named := func(i int) string { return "n" + strconv.Itoa(i) }
	for i := range api.MaxNames {
		p.Names = append(p.Names, ladder.Name{Name: named(i), Kind: ladder.Coil})
		if next := i + step; next >= 0 && next < api.MaxNames {
			p.Rungs = append(p.Rungs, ladder.Rung{Kind: ladder.Set, Name: named(i), If: expr.Bit(named(next))})
		}
	}
	return p
}

func TestNeedsOfLongestChains(t *testing.T) {
	for _, step := range []int{1, -1} {
		p := chain(step)
		for i, n := range p.Names {
			got, err := Needs(p, []string{n.Name})
			first, last := i, api.MaxNames-1
			if step < 0 {
				first, last = 0, i
			}
			if err != nil || len(got) != last-first+1 || got[0] != first || !slices.IsSorted(got) {
				t.Errorf("of %s, step %d: %v, %s", n.Name, step, got, wrong(err))
			}
		}
	}
}

func TestOf(t *testing.T) {
	p := plant(t)
	for _, c := range []struct{ names, want string }{
		{"", lines("input z", "input go", "input stop")},
		{"go", lines("input z", "input go", "input stop")},
		{"alone", lines("input z", "input go", "input stop", "coil alone")},
		{"m", lines("input z", "input go", "coil m", "input stop", "set m = ^go", "reset m = stop")},
		{"alone m", lines("input z", "input go", "coil m", "input stop", "coil alone", "set m = ^go", "reset m = stop")},
		{"t", lines("input z", "input go", "coil m", "input stop", "timer t 3", "set m = ^go", "reset m = stop", "run t = m")},
		{"t t z m", lines("input z", "input go", "coil m", "input stop", "timer t 3", "set m = ^go", "reset m = stop", "run t = m")},
		{"c", lines("input z", "input go", "coil m", "input stop", "timer t 3", "counter c 2", "coil alone",
			"set m = ^go", "count c = ~t & m", "reset m = stop", "run t = m", "zero c = !(z | 0 & alone)")},
		{"lamp", ladder.Text(p)},
	} {
		q, err := Of(p, strings.Fields(c.names))
		if got := ladder.Text(q); err != nil || got != c.want {
			t.Errorf("of %q: %s, %q, not %q", c.names, wrong(err), got, c.want)
		}
	}
}

// Nothing is made tidy on the way, and like rungs all stay.
func TestOfLeavesRungsAsTheyAre(t *testing.T) {
	text := []string{"coil m", "m = !!m & 1", "set m = 0", "m = !!m & 1", "reset m = m | m"}
	q, err := Of(read(t, text...), []string{"m"})
	if got := ladder.Text(q); err != nil || got != lines(text...) {
		t.Errorf("%s, %q", wrong(err), got)
	}
}

func TestTidy(t *testing.T) {
	all := []string{"coil m", "input a", "timer t 2", "counter c 3"}
	for _, c := range []struct {
		rungs, want []string
	}{
		{nil, nil},
		// Each expression is tidy.
		{[]string{"m = a & !!a & 1"}, []string{"m = a"}},
		{[]string{"set m = (a | 0) & (m & t)", "reset m = !(1 & !c)"}, []string{"set m = a & m & t", "reset m = c"}},
		{[]string{"run t = 0 | ^a", "count c = a & a", "zero c = !!~t"}, []string{"run t = ^a", "count c = a", "zero c = ~t"}},
		// What is 0 is left out of four kinds alone.
		{[]string{"m = 0"}, []string{"m = 0"}},
		{[]string{"run t = 0"}, []string{"run t = 0"}},
		{[]string{"set m = 0"}, nil},
		{[]string{"reset m = 0"}, nil},
		{[]string{"count c = 0"}, nil},
		{[]string{"zero c = 0"}, nil},
		{[]string{"m = a & !a", "run t = !1", "set m = a & !a", "reset m = !1", "count c = 0 & a", "zero c = !(a | !a)"}, []string{"m = 0", "run t = 0"}},
		// What is 1 stays, and what is neither.
		{[]string{"m = 1", "set m = 1", "reset m = !0", "run t = 1", "count c = a | !a", "zero c = 1"},
			[]string{"m = 1", "set m = 1", "reset m = 1", "run t = 1", "count c = 1", "zero c = 1"}},
		{[]string{"set m = ^a & ~a", "count c = !a"}, []string{"set m = ^a & ~a", "count c = !a"}},
		// The others stay in order, like ones too.
		{[]string{"set m = a", "zero c = 0", "m = t", "set m = a", "set m = a & 0", "run t = c"}, []string{"set m = a", "m = t", "set m = a", "run t = c"}},
	} {
		q, err := Tidy(read(t, slices.Concat(all, c.rungs)...))
		if got, want := ladder.Text(q), lines(slices.Concat(all, c.want)...); err != nil || got != want {
			t.Errorf("%q: %s, %q, not %q", c.rungs, wrong(err), got, want)
		}
	}
}

// A program without names is one.
func TestNothing(t *testing.T) {
	var nothing ladder.Program
	if l, err := Needs(nothing, nil); err != nil || len(l) != 0 {
		t.Errorf("Needs: %v, %s", l, wrong(err))
	}
	for what, make := range map[string]func() (ladder.Program, error){
		"Of":   func() (ladder.Program, error) { return Of(nothing, []string{}) },
		"Tidy": func() (ladder.Program, error) { return Tidy(nothing) },
	} {
		if p, err := make(); err != nil || len(p.Names) != 0 || len(p.Rungs) != 0 {
			t.Errorf("%s: %v, %s", what, p, wrong(err))
		}
	}
}

// wants asks Needs and Of for one error, and nothing besides.
func wants(t *testing.T, what string, p ladder.Program, names []string, want string) {
	t.Helper()
	if l, err := Needs(p, names); wrong(err) != want || l != nil {
		t.Errorf("%q: Needs: %v, %s, not %s", what, l, wrong(err), want)
	}
	if q, err := Of(p, names); wrong(err) != want || q.Names != nil || q.Rungs != nil {
		t.Errorf("%q: Of: %v, %s, not %s", what, q, wrong(err), want)
	}
}

func TestMissingNames(t *testing.T) {
	p := plant(t)
	missing := wrong(api.ErrMissing)
	for _, names := range [][]string{{"q"}, {""}, {"M"}, {"m "}, {"m", "q"}, {"q", "m"}, {"lamp", "lamp", "lamps", "q"}, {"input"}, {"m\x00"}, {"\xff"}} {
		wants(t, strings.Join(names, ","), p, names, missing)
	}
	wants(t, "no names", ladder.Program{}, []string{"m"}, missing)
	wants(t, "no names", ladder.Program{}, []string{""}, missing)
}

func TestWhatCheckSays(t *testing.T) {
	yes := expr.Const(true)
	names := []ladder.Name{{Name: "m", Kind: ladder.Coil}, {Name: "t", Kind: ladder.Timer, Count: 1}}
	for what, c := range map[string]struct {
		p    ladder.Program
		want string
	}{
		"13 names":            {ladder.Program{Names: make([]ladder.Name, 13)}, wrong(api.ErrLimit)},
		"41 rungs":            {ladder.Program{Names: names, Rungs: make([]ladder.Rung, 41)}, wrong(api.ErrLimit)},
		"no name":             {ladder.Program{Names: []ladder.Name{names[0], {Kind: ladder.Coil}}}, at(api.ErrName, 1)},
		"no kind":             {ladder.Program{Names: []ladder.Name{{Name: "m"}}}, at(api.ErrArg, 0)},
		"no count":            {ladder.Program{Names: []ladder.Name{names[0], names[1], {Name: "c", Kind: ladder.Counter}}}, at(api.ErrRange, 2)},
		"twice":               {ladder.Program{Names: []ladder.Name{names[0], names[0]}}, at(api.ErrTwice, 1)},
		"no expression":       {ladder.Program{Names: names, Rungs: []ladder.Rung{{Kind: ladder.Sets, Name: "m"}}}, at(api.ErrArg, 2)},
		"a rung of none":      {ladder.Program{Names: names, Rungs: []ladder.Rung{{Kind: ladder.Sets, Name: "q", If: yes}}}, at(api.ErrMissing, 2)},
		"a rung of another":   {ladder.Program{Names: names, Rungs: []ladder.Rung{{Kind: ladder.Run, Name: "m", If: yes}}}, at(api.ErrArg, 2)},
		"a rung naming none":  {ladder.Program{Names: names, Rungs: []ladder.Rung{{Kind: ladder.Set, Name: "m", If: yes}, {Kind: ladder.Run, Name: "t", If: expr.Rise("q")}}}, at(api.ErrMissing, 3)},
		"a name left out":     {ladder.Program{Names: names, Rungs: []ladder.Rung{{Kind: ladder.Set, Name: "m", If: expr.And{expr.Const(false), expr.Bit("q")}}}}, at(api.ErrMissing, 2)},
		"not of a kind there": {ladder.Program{Names: names, Rungs: []ladder.Rung{{Kind: 7, Name: "m", If: yes}}}, at(api.ErrArg, 2)},
	} {
		if q, err := Tidy(c.p); wrong(err) != c.want || q.Names != nil || q.Rungs != nil {
			t.Errorf("%s: Tidy: %v, %s, not %s", what, q, wrong(err), c.want)
		}
		// Ahead of a name that is missing, and with those that are there, or none.
		for _, names := range [][]string{nil, {"m"}, {"q"}, {""}} {
			wants(t, what, c.p, names, c.want)
		}
	}
}

// foreign is an expression of another package's making.
type foreign struct{ text *string }

func (f foreign) Text() string { return *f.text }

func TestNothingPanics(t *testing.T) {
	for _, e := range []expr.Expr{
		nil, expr.Not{}, expr.And{}, expr.Or(nil), expr.And{nil}, expr.Or{nil, expr.Bit("m")}, (*expr.Not)(nil), (*expr.Const)(nil), &expr.Not{Of: expr.Bit("q")},
		foreign{}, expr.Not{Of: foreign{}}, expr.And{foreign{}, expr.Rise("m")}, expr.Bit(""),
	} {
		for kind := range 8 {
			for _, name := range []string{"m", "t", "c", "a", ""} {
				p := ladder.Program{Names: plant(t).Names, Rungs: []ladder.Rung{{Kind: kind, Name: name, If: e}}}
				Needs(p, []string{"m", "t", "c"})
				Of(p, []string{"m", "t", "c"})
				Tidy(p)
			}
		}
	}
}

// A program's expressions may be deeper than Parse takes them.
func TestDeepExpressions(t *testing.T) {
	var e expr.Expr = expr.Rise("a")
	for range 1 << 15 {
		e = expr.Not{Of: expr.And{e, expr.Bit("m")}}
	}
	p := read(t, "input b", "input a", "coil n", "coil m")
	p.Rungs = []ladder.Rung{{Kind: ladder.Sets, Name: "m", If: e}, {Kind: ladder.Set, Name: "m", If: expr.Not{Of: expr.Or{e, expr.Not{Of: e}}}}}
	if l, err := Needs(p, []string{"m"}); err != nil || !slices.Equal(l, []int{1, 3}) {
		t.Errorf("Needs: %v, %s", l, wrong(err))
	}
	if q, err := Of(p, []string{"m"}); err != nil || len(q.Names) != 3 || len(q.Rungs) != 2 {
		t.Errorf("Of: %d names, %d rungs, %s", len(q.Names), len(q.Rungs), wrong(err))
	}
	if q, err := Tidy(p); err != nil || len(q.Names) != 4 || len(q.Rungs) != 1 || !reflect.DeepEqual(q.Rungs[0].If, expr.Tidy(e)) {
		t.Errorf("Tidy: %d names, %d rungs, %s", len(q.Names), len(q.Rungs), wrong(err))
	}
}

// However often a name is asked for, it is there once.
func TestManyNames(t *testing.T) {
	p := chain(1)
	names := make([]string, 200_000)
	for i := range names {
		names[i] = p.Names[5+i%7].Name
	}
	if l, err := Needs(p, names); err != nil || !slices.Equal(l, []int{5, 6, 7, 8, 9, 10, 11}) {
		t.Errorf("Needs: %v, %s", l, wrong(err))
	}
	wants(t, "the last one is none", p, append(names, "q"), wrong(api.ErrMissing))
}
