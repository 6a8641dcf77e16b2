package gate

import (
	"errors"
	"reflect"
	"slices"
	"strconv"
	"strings"
	"testing"

	"signalcabin/api"
	"signalcabin/expr"
)

// draw gives numbers that look drawn, the same each time.
type draw uint64

func (d *draw) below(n int) int {
	*d = *d*6364136223846793005 + 1442695040888963407
	return int(uint64(*d>>33) % uint64(n))
}

// wrong writes an error: its number, and its place, if it has one.
func wrong(err error) string {
	s := strconv.Itoa(int(api.Tell(err)))
	var at *api.At
	if errors.As(err, &at) {
		s += " at " + strconv.Itoa(at.Place)
	}
	return s
}

func read(t *testing.T, text string) expr.Expr {
	t.Helper()
	e, err := expr.Parse(text)
	if err != nil {
		t.Fatalf("Parse of %q: %s", text, wrong(err))
	}
	return e
}

// shown writes clauses: how many variables, then each clause.
func shown(c Clauses) string {
	l := []string{strconv.Itoa(c.Vars)}
	for _, clause := range c.All {
		var literals []string
		for _, literal := range clause {
			literals = append(literals, strconv.Itoa(literal))
		}
		l = append(l, strings.Join(literals, " "))
	}
	return strings.Join(l, ", ")
}

// drawn is an expression that is put together of all seven types.
func drawn(d *draw, names []string, deep int) expr.Expr {
	name := names[d.below(len(names))]
	if deep == 0 || d.below(6) == 0 {
		switch d.below(9) {
		case 0:
			return expr.Const(d.below(2) == 0)
		case 1, 2:
			return expr.Rise(name)
		case 3, 4:
			return expr.Fall(name)
		}
		return expr.Bit(name)
	}
	if d.below(4) == 0 {
		return expr.Not{Of: drawn(d, names, deep-1)}
	}
	l := make([]expr.Expr, 2+d.below(3))
	for i := range l {
		l[i] = drawn(d, names, deep-1)
	}
	if d.below(2) == 0 {
		return expr.And(l)
	}
	return expr.Or(l)
}

// ofSize is an expression of that size, of many names.
func ofSize(n int) expr.Expr {
	if n < 3 {
		e := expr.Expr(expr.Bit("a"))
		for range n - 1 {
			e = expr.Not{Of: e}
		}
		return e
	}
	var l expr.Or
	for i := range n - 1 {
		l = append(l, expr.Rise("n"+strconv.Itoa(i)))
	}
	return l
}

// inputs tells of names, from bits: those of an expression's names, in order, then those of what its edges were.
func inputs(e expr.Expr, bits int) (is, was func(string) bool) {
	names, edges := expr.Names(e), expr.Edges(e)
	is = func(name string) bool { return bits>>slices.Index(names, name)&1 == 1 }
	was = func(name string) bool { return bits>>(len(names)+slices.Index(edges, name))&1 == 1 }
	return is, was
}

// foreign is an Expr of another package's making.
type foreign struct{ text *string }

func (f foreign) Text() string { return *f.text }

// 7.1

func TestOfIsMadePartByPart(t *testing.T) {
	for _, c := range []struct {
		text, clauses string
		literal       int
	}{
		// Bit, Not
		{"a", "1", 1},
		{"!a", "1", -1},
		{"!!a", "1", 1},
		{"!!!a", "1", -1},
		// Const
		{"1", "1, 1", 1},
		{"0", "1, -1", 1},
		{"!1", "1, 1", -1},
		{"!0", "1, -1", -1},
		// And
		{"a & b", "3, -3 1, -3 2, 3 -1 -2", 3},
		{"b & a", "3, -3 2, -3 1, 3 -2 -1", 3},
		{"a & !b", "3, -3 1, -3 -2, 3 -1 2", 3},
		{"!(a & b)", "3, -3 1, -3 2, 3 -1 -2", -3},
		{"a & a", "2, -2 1, -2 1, 2 -1 -1", 2},
		{"a & !a", "2, -2 1, -2 -1, 2 -1 1", 2},
		{"c & a & !b & a", "4, -4 3, -4 1, -4 -2, -4 1, 4 -3 -1 2 -1", 4},
		// Or
		{"a | b", "3, -3 -1, -3 -2, 3 1 2", -3},
		{"b | a", "3, -3 -2, -3 -1, 3 2 1", -3},
		{"!a | b", "3, -3 1, -3 -2, 3 -1 2", -3},
		{"!(a | b)", "3, -3 -1, -3 -2, 3 1 2", 3},
		{"c | a | !b", "4, -4 -3, -4 -1, -4 2, 4 3 1 -2", -4},
		// Rise, Fall
		{"^a", "3, -3 1, -3 -2, 3 -1 2", 3},
		{"~a", "3, -3 -1, -3 2, 3 1 -2", 3},
		{"!^a", "3, -3 1, -3 -2, 3 -1 2", -3},
		{"!~a", "3, -3 -1, -3 2, 3 1 -2", -3},
		// variables: names in order of bytes, then edges likewise, then parts
		{"b_ & b & a & b1 & ba", "6, -6 4, -6 2, -6 1, -6 3, -6 5, 6 -4 -2 -1 -3 -5", 6},
		{"^b & a", "5, -4 2, -4 -3, 4 -2 3, -5 4, -5 1, 5 -4 -1", 5},
		{"~c | ^a | b", "8, -6 -3, -6 5, 6 3 -5, -7 1, -7 -4, 7 -1 4, -8 -6, -8 -7, -8 -2, 8 6 7 2", -8},
		{"a & ^a", "4, -3 1, -3 -2, 3 -1 2, -4 1, -4 3, 4 -1 -3", 4},
		// parts one by one, each ahead of what it is in; like ones each anew
		{"(a & b) & (b | a)", "5, -3 1, -3 2, 3 -1 -2, -4 -2, -4 -1, 4 2 1, -5 3, -5 -4, 5 -3 4", 5},
		{"a & b | a & b", "5, -3 1, -3 2, 3 -1 -2, -4 1, -4 2, 4 -1 -2, -5 -3, -5 -4, 5 3 4", -5},
		{"1 & 1", "3, 1, 2, -3 1, -3 2, 3 -1 -2", 3},
		{"0 | a | 1", "4, -2, 3, -4 -2, -4 -1, -4 -3, 4 2 1 3", -4},
		{"^a | ^a", "5, -3 1, -3 -2, 3 -1 2, -4 1, -4 -2, 4 -1 2, -5 -3, -5 -4, 5 3 4", -5},
		{"!(a & (b | !(a & !b))) & ~b", "8, -4 1, -4 -2, 4 -1 2, -5 -2, -5 4, 5 2 -4, -6 1, -6 -5, 6 -1 5, -7 -2, -7 3, 7 2 -3, -8 -6, -8 7, 8 6 -7", 8},
		{"!(a & b) | ^c", "7, -5 1, -5 2, 5 -1 -2, -6 3, -6 -4, 6 -3 4, -7 5, -7 -6, 7 -5 6", -7},
	} {
		clauses, literal, err := Of(read(t, c.text))
		if shown(clauses) != c.clauses || literal != c.literal || err != nil {
			t.Errorf("Of %s is %s; %d; %s, want %s; %d", c.text, shown(clauses), literal, wrong(err), c.clauses, c.literal)
		}
	}
}

// told is what follows one by one: a clause all of whose literals but one are false makes that true.
func told(c Clauses, bits, known int) []int {
	value := make([]int, c.Vars+1)
	for i := range known {
		value[i+1] = 2*(bits>>i&1) - 1
	}
	for more := true; more; {
		more = false
		for _, clause := range c.All {
			var open []int
			holds := false
			for _, l := range clause {
				v, sign := max(l, -l), 1
				if l < 0 {
					sign = -1
				}
				holds = holds || value[v] == sign
				if value[v] == 0 {
					open = append(open, l)
				}
			}
			if !holds && len(open) == 0 {
				return nil
			}
			if !holds && len(open) == 1 {
				l := open[0]
				value[max(l, -l)] = 1
				if l < 0 {
					value[-l] = -1
				}
				more = true
			}
		}
	}
	return value
}

func TestOfLiteralIsTrueJustIfTheExpressionIs(t *testing.T) {
	d := draw(71)
	for range 400 {
		e := drawn(&d, []string{"a", "b", "c"}, d.below(5))
		c, literal, err := Of(e)
		if expr.Size(e) > 300 {
			if wrong(err) != "4" {
				t.Fatalf("Of %s: %s", expr.Text(e), wrong(err))
			}
			continue
		}
		if err != nil {
			t.Fatalf("Of %s: %s", expr.Text(e), wrong(err))
		}
		known := len(expr.Names(e)) + len(expr.Edges(e))
		for bits := range 1 << known {
			value := told(c, bits, known)
			if value == nil || slices.Contains(value[1:], 0) {
				t.Fatalf("Of %s: the values of %b don't follow", expr.Text(e), bits)
			}
			is, was := inputs(e, bits)
			says := value[max(literal, -literal)] == 1
			if literal < 0 {
				says = !says
			}
			if says != expr.Eval(e, is, was) {
				t.Fatalf("Of %s by %b: the literal is %v", expr.Text(e), bits, says)
			}
		}
	}
}

func TestOfNil(t *testing.T) {
	c, literal, err := Of(nil)
	if !reflect.DeepEqual(c, Clauses{}) || literal != 0 || err != api.ErrMissing {
		t.Errorf("Of nil is %v, %d, %v", c, literal, err)
	}
}

func TestOfSize(t *testing.T) {
	nots := func(n int) expr.Expr {
		e := expr.Expr(expr.Bit("a"))
		for range n - 1 {
			e = expr.Not{Of: e}
		}
		return e
	}
	for _, of := range []func(int) expr.Expr{ofSize, nots} {
		e := of(300)
		c, literal, err := Of(e)
		if expr.Size(e) != 300 || err != nil || literal == 0 || c.Vars < 1 {
			t.Errorf("size %d: %d variables, literal %d, %s", expr.Size(e), c.Vars, literal, wrong(err))
		}
		if err := Check(c); err != nil {
			t.Errorf("Check of the greatest: %s", wrong(err))
		}
		e = of(301)
		c, literal, err = Of(e)
		if expr.Size(e) != 301 || !reflect.DeepEqual(c, Clauses{}) || literal != 0 || err != api.ErrLimit {
			t.Errorf("size %d: %v, %d, %v", expr.Size(e), c, literal, err)
		}
	}
	if _, _, err := Of(nots(1 << 16)); err != api.ErrLimit {
		t.Errorf("the deepest: %v", err)
	}
	c, literal, err := Of(ofSize(300))
	if c.Vars != 299*3+1 || len(c.All) != 299*3+300 || literal != -c.Vars || err != nil {
		t.Errorf("299 edges: %d variables, %d clauses, literal %d, %s", c.Vars, len(c.All), literal, wrong(err))
	}
}

func TestOfPartsInManyPlaces(t *testing.T) {
	e := expr.Expr(expr.Bit("a"))
	for range 100 {
		e = expr.And{e, e}
	}
	if _, _, err := Of(e); err != api.ErrLimit {
		t.Errorf("Of 2^101 - 1 expressions: %v", err)
	}
	if _, err := Same(e, e); err != api.ErrLimit {
		t.Errorf("Same of these: %v", err)
	}
	round := expr.And{expr.Bit("a"), nil}
	round[1] = round
	if _, _, err := Of(round); err != api.ErrLimit {
		t.Errorf("Of one within itself: %v", err)
	}
}

func TestOfIsTheCallers(t *testing.T) {
	e := read(t, "!(a & b) | ^c | 1 & ~d")
	text := expr.Text(e)
	first, literal, _ := Of(e)
	want := shown(first)
	for i := range first.All {
		for j := range first.All[i] {
			first.All[i][j] += 1000
		}
		if grown := append(first.All[i], 7); len(grown) == 0 {
			t.Fatal("nothing was added")
		}
	}
	for i, clause := range first.All {
		for _, l := range clause {
			if l < 900 || l > 1100 {
				t.Errorf("clause %d shares its memory: %v", i, clause)
			}
		}
	}
	again, literalAgain, err := Of(e)
	if shown(again) != want || literalAgain != literal || err != nil || expr.Text(e) != text {
		t.Errorf("Of %s is %s, then %s", text, want, shown(again))
	}
}

func TestOfWritesNothingIntoAnExpression(t *testing.T) {
	room := []expr.Expr{expr.Rise("a"), expr.Not{Of: expr.Bit("b")}, expr.Bit("behind")}
	for _, e := range []expr.Expr{expr.And(room[:2]), expr.Or(room[:2])} {
		Of(e)
		Same(e, e)
		if !reflect.DeepEqual(room, []expr.Expr{expr.Rise("a"), expr.Not{Of: expr.Bit("b")}, expr.Bit("behind")}) {
			t.Errorf("there is written into %v", room)
		}
	}
}

func TestNothingPanics(t *testing.T) {
	text := "x"
	for _, e := range []expr.Expr{
		nil, expr.Not{}, expr.And(nil), expr.Or(nil), expr.And{}, expr.Or{}, expr.And{nil}, expr.Or{nil, nil}, expr.And{expr.Not{}, expr.Or{nil, expr.Bit("a")}},
		expr.Bit(""), expr.Rise(""), expr.Fall("!"), (*expr.Not)(nil), (*expr.And)(nil), (*expr.Const)(nil), &expr.Not{Of: expr.Bit("a")},
		expr.And{(*expr.Bit)(nil), expr.Bit("a")}, foreign{}, foreign{&text}, expr.Not{Of: foreign{}}, expr.Or{foreign{&text}, foreign{}},
	} {
		c, literal, err := Of(e)
		if err == nil && (literal == 0 || Check(c) != nil) {
			t.Errorf("Of %#v is %v, %d", e, c, literal)
		}
		Solve(c)
		Same(e, e)
		Same(e, nil)
		Same(expr.Bit("a"), e)
	}
}
