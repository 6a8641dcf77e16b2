package route

import (
	"reflect"
	"slices"
	"strconv"
	"strings"
	"testing"

	"signalcabin/expr"
	"signalcabin/ladder"
	"signalcabin/machine"
	"signalcabin/prop"
	"signalcabin/scan"
)

// Held against what the document says, of drawn tables

// draw gives numbers that look drawn, the same each time.
type draw uint64

func (d *draw) below(n int) int {
	*d = *d*6364136223846793005 + 1442695040888963407
	return int(uint64(*d>>33) % uint64(n))
}

// some are so many numbers below another one at most, none twice, in any order.
func (d *draw) some(many, below int) []int {
	var l []int
	for range many {
		if n := d.below(below); !slices.Contains(l, n) {
			l = append(l, n)
		}
	}
	return l
}

// table is one that may be.
func (d *draw) table() Table {
	t := Table{Sections: 1 + d.below(3), Points: d.below(3)}
	for range 1 + d.below(3) {
		r := Route{Sections: d.some(1+d.below(3), t.Sections)}
		if t.Points > 0 {
			for _, n := range d.some(d.below(3), t.Points) {
				r.Points = append(r.Points, Point{n, d.below(2) == 0})
			}
		}
		t.Routes = append(t.Routes, r)
	}
	return t
}

// clash is by the document's words, pair by pair.
func clash(a, b Route) bool {
	for _, s := range a.Sections {
		for _, u := range b.Sections {
			if s == u {
				return true
			}
		}
	}
	for _, p := range a.Points {
		for _, q := range b.Points {
			if p.Number == q.Number && p.Over != q.Over {
				return true
			}
		}
	}
	return false
}

// number writes a letter and a number.
func number(letter string, n int) string { return letter + strconv.Itoa(n) }

// program writes the lines of the document's program.
func program(t Table) string {
	var resets, sets, points, names []string
	for i, r := range t.Routes {
		names = append(names, "input a"+strconv.Itoa(i))
		free, others := "", ""
		for _, s := range r.Sections {
			free += " & !" + number("b", s)
		}
		for j, other := range t.Routes {
			if j != i && clash(r, other) {
				others += " & !" + number("l", j)
			}
		}
		resets = append(resets, "reset "+number("l", i)+" = !"+number("a", i)+free)
		sets = append(sets, "set "+number("l", i)+" = "+number("a", i)+free+others)
	}
	for i := range t.Sections {
		names = append(names, "input "+number("b", i))
	}
	for i := range t.Routes {
		names = append(names, "coil "+number("l", i))
	}
	for i := range t.Points {
		names = append(names, "coil "+number("p", i))
		for _, word := range []string{"set ", "reset "} {
			var wanting []string
			for j, r := range t.Routes {
				for _, p := range r.Points {
					if p.Number == i && p.Over == (word == "set ") {
						wanting = append(wanting, number("l", j))
					}
				}
			}
			if wanting != nil {
				points = append(points, word+number("p", i)+" = "+strings.Join(wanting, " | "))
			}
		}
	}
	return lines(slices.Concat(names, resets, sets, points)...)
}

// safety writes the document's expression.
func safety(t Table) string {
	var parts []string
	for i, r := range t.Routes {
		l := number("l", i)
		for j := range i {
			if clash(r, t.Routes[j]) {
				parts = append(parts, "!("+number("l", j)+" & "+l+")")
			}
		}
		for _, point := range r.Points {
			p, sign := number("p", point.Number), "!"
			if point.Over {
				sign = ""
			}
			parts = append(parts, "(!"+l+" | "+sign+p+")", "(!"+l+" | ^"+l+" | !(^"+p+" | ~"+p+"))")
		}
	}
	if parts == nil {
		return "1"
	}
	return strings.Join(parts, " & ")
}

func TestDrawnTables(t *testing.T) {
	d := draw(11)
	for range 3000 {
		c := d.table()
		p, err := Ladder(c)
		want := program(c)
		if err != nil || ladder.Check(p) != nil || ladder.Text(p) != want {
			t.Fatalf("%v: %s, %s, not %s", c, ladder.Text(p), wrong(err), want)
		}
		isParsed(t, p, want)
		e, err := Safe(c)
		if err != nil || expr.Text(e) != safety(c) {
			t.Fatalf("%v: %s, %s, not %s", c, expr.Text(e), wrong(err), safety(c))
		}
		if read, err := expr.Parse(safety(c)); err != nil || !reflect.DeepEqual(e, read) {
			t.Fatalf("%v: %#v, not %#v", c, e, read)
		}
		for _, a := range c.Routes {
			for _, b := range c.Routes {
				if Clash(a, b) != clash(a, b) {
					t.Fatalf("%v and %v: %v", a, b, Clash(a, b))
				}
			}
		}
	}
}

// The interlocking is safe, whatever comes.
func TestSafeAlwaysHolds(t *testing.T) {
	d := draw(8)
	for range 150 {
		c := d.table()
		p, _ := Ladder(c)
		e, _ := Safe(c)
		m, err := machine.Of(p)
		if err != nil {
			t.Fatalf("%v: %s", c, wrong(err))
		}
		holds, inputs, err := prop.Check(m, e)
		if !holds || err != nil {
			t.Fatalf("%v: not safe by %v, %s", c, inputs, wrong(err))
		}
	}
}

// What Safe says, told scan by scan without it.
func TestPlayedTablesAreSafe(t *testing.T) {
	d := draw(5)
	for range 300 {
		c := d.table()
		p, _ := Ladder(c)
		inputs := make([][]bool, 60)
		for i := range inputs {
			inputs[i] = make([]bool, len(c.Routes)+c.Sections)
			for j := range inputs[i] {
				inputs[i][j] = d.below(3) == 0
			}
		}
		states, err := scan.Play(p, inputs)
		if err != nil {
			t.Fatalf("%v: %s", c, wrong(err))
		}
		ahead := scan.Start(p)
		for _, s := range states {
			if what := harm(c, told(p, ahead), told(p, s)); what != "" {
				t.Fatalf("%v: %s", c, what)
			}
			ahead = s
		}
	}
}

func told(p ladder.Program, s scan.State) func(letter string, n int) bool {
	return func(letter string, n int) bool { return s.Is[p.Number(number(letter, n))] }
}

// harm is what should never be behind a scan.
func harm(t Table, was, is func(letter string, n int) bool) string {
	for i, r := range t.Routes {
		if !is("l", i) {
			continue
		}
		for j := range i {
			if is("l", j) && clash(r, t.Routes[j]) {
				return "two that clash are locked"
			}
		}
		for _, p := range r.Points {
			if is("p", p.Number) != p.Over {
				return "a point lies otherwise"
			}
			if was("l", i) && was("p", p.Number) != p.Over {
				return "a point moved beneath a route"
			}
		}
	}
	return ""
}

// A route is locked while something is on it, though it is asked for no more; another one waits for it, and lays the point over.
func TestOneTrainAfterAnother(t *testing.T) {
	c := table(2, 1, "0 : 0-", "0 1 : 0+")
	p, err := Ladder(c)
	if err != nil {
		t.Fatal(wrong(err))
	}
	// Inputs a0 a1 b0 b1; behind each scan l0 l1 p0.
	var inputs [][]bool
	var want []string
	for _, step := range [][2]string{
		{"1100", "100"}, {"0110", "100"}, {"0100", "011"}, {"1100", "011"}, {"1001", "011"}, {"1000", "100"}, {"0000", "000"},
	} {
		var l []bool
		for _, sign := range step[0] {
			l = append(l, sign == '1')
		}
		inputs, want = append(inputs, l), append(want, step[1])
	}
	states, err := scan.Play(p, inputs)
	if err != nil {
		t.Fatal(wrong(err))
	}
	for i, s := range states {
		got := ""
		for _, name := range []string{"l0", "l1", "p0"} {
			got += map[bool]string{true: "1", false: "0"}[s.Is[p.Number(name)]]
		}
		if got != want[i] {
			t.Errorf("scan %d: %s, not %s", i, got, want[i])
		}
	}
}

// copied is a table in memory of its own, with room behind each list's length.
func copied(t Table) Table {
	l := make([]Route, 0, len(t.Routes)+2)
	for _, r := range t.Routes {
		l = append(l, Route{
			append(make([]int, 0, len(r.Sections)+2), r.Sections...),
			append(make([]Point, 0, len(r.Points)+2), r.Points...),
		})
	}
	return Table{t.Sections, t.Points, l}
}

// whole is a table with what stands behind the lengths of its lists.
func whole(t Table) Table {
	l := slices.Clone(t.Routes[:cap(t.Routes)])
	for i, r := range l {
		l[i] = Route{slices.Clone(r.Sections[:cap(r.Sections)]), slices.Clone(r.Points[:cap(r.Points)])}
	}
	return Table{t.Sections, t.Points, l}
}

func TestTablesStayAndAnswersAreFresh(t *testing.T) {
	d := draw(77)
	for range 300 {
		c := copied(d.table())
		before := whole(c)
		p, _ := Ladder(c)
		e, _ := Safe(c)
		Check(c)
		Text(c)
		for _, r := range c.Routes {
			Clash(r, c.Routes[0])
		}
		if !reflect.DeepEqual(whole(c), before) {
			t.Fatalf("%v was written into: %v", before, whole(c))
		}
		text, safe := ladder.Text(p), expr.Text(e)
		spoil(c, p, e)
		back := Table{before.Sections, before.Points, before.Routes[:len(c.Routes)]}
		for i, r := range back.Routes {
			back.Routes[i] = Route{r.Sections[:len(c.Routes[i].Sections)], r.Points[:len(c.Routes[i].Points)]}
		}
		p, _ = Ladder(back)
		e, _ = Safe(back)
		if ladder.Text(p) != text || expr.Text(e) != safe {
			t.Fatalf("%v: asked again, it is another one", back)
		}
	}
}

// spoil writes into all that was handed in, and came out.
func spoil(t Table, p ladder.Program, e expr.Expr) {
	for _, r := range t.Routes {
		clear(r.Sections)
		clear(r.Points)
	}
	clear(p.Names)
	for _, rung := range p.Rungs {
		clearParts(rung.If)
	}
	clear(p.Rungs)
	clearParts(e)
}

func clearParts(e expr.Expr) {
	switch x := e.(type) {
	case expr.And:
		clear(x)
	case expr.Or:
		clear(x)
	}
}

// lists are all lists of parts in an expression.
func lists(e expr.Expr) [][]expr.Expr {
	var parts []expr.Expr
	switch x := e.(type) {
	case expr.Not:
		return lists(x.Of)
	case expr.And:
		parts = x
	case expr.Or:
		parts = x
	default:
		return nil
	}
	l := [][]expr.Expr{parts}
	for _, part := range parts {
		l = append(l, lists(part)...)
	}
	return l
}

// No two lists of an answer share memory, not even behind their lengths.
func TestListsOfAnAnswerShareNothing(t *testing.T) {
	d := draw(4)
	for range 300 {
		c := d.table()
		p, _ := Ladder(c)
		e, _ := Safe(c)
		var all [][]expr.Expr
		for _, rung := range p.Rungs {
			all = append(all, lists(rung.If)...)
		}
		all = append(all, lists(e)...)
		for i, l := range all {
			l = l[:cap(l)]
			for k := range l {
				l[k] = expr.Bit(strconv.Itoa(i))
			}
		}
		for i, l := range all {
			if slices.ContainsFunc(l[:cap(l)], func(e expr.Expr) bool { return e != expr.Bit(strconv.Itoa(i)) }) {
				t.Fatalf("%v: two lists share memory", c)
			}
		}
	}
}
