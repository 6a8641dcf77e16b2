package ladder

import (
	"reflect"
	"strings"
	"testing"

	"signalcabin/api"
	"signalcabin/expr"
)

func TestText(t *testing.T) {
	p := Program{
		Names: []Name{{"z", Input, 0}, {"a", Input, 0}, {"m", Coil, 0}, {"b", Coil, 0}, {"t", Timer, 3}, {"c", Counter, 7}},
		Rungs: []Rung{
			{Sets, "m", expr.And{expr.Bit("a"), expr.Not{Of: expr.Bit("z")}}},
			{Set, "b", expr.Or{expr.Rise("z"), expr.Bit("m")}},
			{Reset, "b", expr.And{expr.Fall("c"), expr.Or{expr.Bit("a"), expr.Const(false)}}},
			{Run, "t", expr.Const(true)},
			{Count, "c", expr.Rise("z")},
			{Zero, "c", expr.Not{Of: expr.And{expr.Bit("t"), expr.Bit("a")}}},
		},
	}
	if got := Text(p); got != sample {
		t.Errorf("Text: %q", got)
	}
	got, err := Parse(sample)
	if err != nil || !reflect.DeepEqual(got, p) {
		t.Errorf("Parse: %v, %s", got, told(err))
	}
	if got := Text(Program{}); got != "" {
		t.Errorf("Text of nothing: %q", got)
	}
}

// A program's expressions may be deeper than Parse takes them.
func TestDeepExpressions(t *testing.T) {
	var e expr.Expr = expr.Rise("m")
	for range 1 << 15 {
		e = expr.Not{Of: expr.And{e, expr.Bit("m")}}
	}
	p := Program{[]Name{{"m", Coil, 0}}, []Rung{{Sets, "m", e}}}
	if err := Check(p); err != nil {
		t.Errorf("Check: %s", told(err))
	}
	if got := p.Edges(); len(got) != 1 || got[0] != 0 {
		t.Errorf("Edges: %v", got)
	}
	if got := Text(p); !strings.HasPrefix(got, "coil m\nm = !(!(!(") || !strings.HasSuffix(got, "& m) & m)\n") {
		t.Errorf("Text: %d bytes", len(got))
	}
}

// An expression may be longer in a program than Parse takes one: Text writes it whole.
func TestTextOfLongExpressions(t *testing.T) {
	l := make(expr.Or, 5_000)
	for i := range l {
		l[i] = expr.Bit("m")
	}
	p := Program{[]Name{{"m", Coil, 0}}, []Rung{{Sets, "m", l}}}
	if got := Text(p); got != "coil m\nm = m"+strings.Repeat(" | m", 4_999)+"\n" {
		t.Errorf("Text: %d bytes", len(got))
	}
}

func TestParseReadsWithBlanks(t *testing.T) {
	cases := []struct{ text, want string }{
		{"", ""},
		{"\n \n", ""},
		{"   ", ""},
		{"input a", "input a\n"},
		{" input  a ", "input a\n"},
		{"\n\n  \ntimer   t   7  \n\n", "timer t 7\n"},
		{"counter c 1", "counter c 1\n"},
		{"coil m\nm=1", "coil m\nm = 1\n"},
		{"coil m\n set  m  =  1 ", "coil m\nset m = 1\n"},
		{"coil m\nreset m=(m&m)|0", "coil m\nreset m = m & m | 0\n"},
		{"coil m\n\n   \nm = ((m))\n", "coil m\nm = m\n"},
		{"coil aset\nset aset = 1\naset = 0", "coil aset\nset aset = 1\naset = 0\n"},
	}
	for _, c := range cases {
		p, err := Parse(c.text)
		if err != nil || Text(p) != c.want {
			t.Errorf("Parse of %q: %s, %q, not %q", c.text, told(err), Text(p), c.want)
		}
	}
}

func TestParseErrors(t *testing.T) {
	cases := []struct {
		text, want string
	}{
		// Lines of names.
		{"input", at(api.ErrForm, 0)},
		{"input a b", at(api.ErrForm, 0)},
		{"bulb a", at(api.ErrForm, 0)},
		{"a", at(api.ErrForm, 0)},
		{"set a", at(api.ErrForm, 0)},
		{"INPUT a", at(api.ErrForm, 0)},
		{"\t", at(api.ErrForm, 0)},
		{"input\ta", at(api.ErrForm, 0)},
		{"input a\r\n", at(api.ErrName, 0)},
		{"coil a 1", at(api.ErrForm, 0)},
		{"coil a 0", at(api.ErrForm, 0)},
		{"timer t", at(api.ErrForm, 0)},
		{"counter c", at(api.ErrForm, 0)},
		{"timer", at(api.ErrForm, 0)},
		{"timer t 1 1", at(api.ErrForm, 0)},
		{"input a\n  input", at(api.ErrForm, 8)},
		{"\n \n input", at(api.ErrForm, 3)},
		// Counts.
		{"timer t x", at(api.ErrForm, 0)},
		{"timer t 07", at(api.ErrForm, 0)},
		{"timer t 00", at(api.ErrForm, 0)},
		{"timer t +7", at(api.ErrForm, 0)},
		{"timer t -0", at(api.ErrForm, 0)},
		{"timer t -07", at(api.ErrForm, 0)},
		{"timer t -", at(api.ErrForm, 0)},
		{"timer t 1_0", at(api.ErrForm, 0)},
		{"timer t 0x1", at(api.ErrForm, 0)},
		{"timer t 9223372036854775808", at(api.ErrForm, 0)},
		{"counter c -9223372036854775809", at(api.ErrForm, 0)},
		{"timer t 9223372036854775807", at(api.ErrRange, 0)},
		{"counter c -9223372036854775808", at(api.ErrRange, 0)},
		{"timer t 0", at(api.ErrRange, 0)},
		{"timer t 8", at(api.ErrRange, 0)},
		{"timer t -1", at(api.ErrRange, 0)},
		// Lines of rungs: ahead of =.
		{"= 1", at(api.ErrForm, 0)},
		{"coil m\n = 1", at(api.ErrForm, 7)},
		{"coil m\nlet m = 1", at(api.ErrForm, 7)},
		{"coil m\ninput m = 1", at(api.ErrForm, 7)},
		{"coil m\n set m m = 1", at(api.ErrForm, 7)},
		{"coil m\nset set m = 1", at(api.ErrForm, 7)},
		{"coil m\nm set = 1", at(api.ErrForm, 7)},
		{"m = 1", at(api.ErrMissing, 0)},
		{"coil m\nset = 1", at(api.ErrMissing, 7)},
		{"coil m\nset set = 1", at(api.ErrMissing, 7)},
		{"coil m\nm! = 1", at(api.ErrMissing, 7)},
		{"coil m\nrun!m = 1", at(api.ErrMissing, 7)},
		{"coil m\n  1 = 1", at(api.ErrMissing, 7)},
		// Lines of rungs: behind =.
		{"coil m\nm = ", at(api.ErrForm, 11)},
		{"coil m\nm =\nm = 1", at(api.ErrForm, 10)},
		{"coil m\nm = 1 = 1", at(api.ErrForm, 13)},
		{"coil m\nm == 1", at(api.ErrForm, 10)},
		{"coil m\nm = M", at(api.ErrName, 11)},
		{"\n coil m\n  set  m =  m & set", at(api.ErrName, 25)},
		{"coil m\nm = m\n  m = (m", at(api.ErrForm, 21)},
		// The order of lines.
		{"coil m\nm = 1\ncoil n", at(api.ErrForm, 13)},
		{"coil m\nm = 1\n bulb", at(api.ErrForm, 13)},
		{"coil m\nm = 1\n  \n coil n\nm = M", at(api.ErrForm, 16)},
		{"coil m\nm = M\nbulb", at(api.ErrName, 11)},
		{"coil m\nbulb\nm = M", at(api.ErrForm, 7)},
		{"coil m\nlet m = M", at(api.ErrForm, 7)},
		// What Check says comes behind all lines.
		{"input a\ninput a\nbulb", at(api.ErrForm, 16)},
		{"coil m\nm = q\nm = (", at(api.ErrForm, 18)},
		{"coil input", at(api.ErrName, 0)},
		{"coil m\n\n  coil m", at(api.ErrTwice, 8)},
		{"coil m\ncoil n\n\nn = q\nm = q", at(api.ErrMissing, 15)},
		{"input a\ncoil m\n\n  a = 1", at(api.ErrArg, 16)},
		{"coil m\nm = 1\n run m = 1", at(api.ErrArg, 13)},
		{"timer t 2\nset t = 1", at(api.ErrArg, 10)},
		{"counter c 2\nrun c = 1", at(api.ErrArg, 12)},
		{"timer t 2\nzero t = 1", at(api.ErrArg, 10)},
	}
	for _, c := range cases {
		p, err := Parse(c.text)
		if got := told(err); got != c.want {
			t.Errorf("Parse of %q: %s, not %s", c.text, got, c.want)
		}
		if p.Names != nil || p.Rungs != nil {
			t.Errorf("Parse of %q: %v beside an error", c.text, p)
		}
	}
}

func TestParseLimits(t *testing.T) {
	deep := strings.Repeat("!", api.MaxDeep)
	thirteen := "coil n" + strings.Join(strings.Split("abcdefghijklm", ""), "\ncoil n")
	cases := []struct {
		what, text, want string
	}{
		{"as long as may be", "coil m" + strings.Repeat(" ", api.MaxText-6), "0"},
		{"too long", "coil m" + strings.Repeat(" ", api.MaxText-5), "4"},
		{"too long ahead of what is wrong", strings.Repeat("?", api.MaxText+1), "4"},
		{"a line as long as may be, which is wrong", strings.Repeat("?", api.MaxText), at(api.ErrForm, 0)},
		{"an expression as long as may be", "coil m\nm =" + strings.Repeat(" ", 1_999) + "1", "0"},
		{"an expression too long", "coil m\n m =" + strings.Repeat(" ", 2_000) + "1\n", at(api.ErrLimit, 11)},
		{"an expression too long ahead of what is wrong", "coil m\nm =" + strings.Repeat("?", 2_001), at(api.ErrLimit, 10)},
		{"an expression as deep as may be", "coil m\nm = " + deep[1:] + "m", "0"},
		{"an expression too deep", "coil m\nm = " + deep + "m", at(api.ErrLimit, 11+api.MaxDeep)},
		{"13 names", thirteen, "4"},
		{"12 names", thirteen[:strings.LastIndexByte(thirteen, '\n')], "0"},
		{"41 rungs", "coil m" + strings.Repeat("\nm = 1", 41), "4"},
		{"40 rungs", "coil m" + strings.Repeat("\nm = 1", 40), "0"},
	}
	for _, c := range cases {
		p, err := Parse(c.text)
		if got := told(err); got != c.want {
			t.Errorf("%s: %s, not %s", c.what, got, c.want)
		}
		if (err == nil) != (len(p.Names) > 0) {
			t.Errorf("%s: %d names", c.what, len(p.Names))
		}
	}
}

// drawn programs are the same each time, but look drawn.
type draw uint64

func (d *draw) below(n int) int {
	*d = *d*6364136223846793005 + 1442695040888963407
	return int(uint64(*d>>33) % uint64(n))
}

func (d *draw) expression(names []string, deep int) expr.Expr {
	name := names[d.below(len(names))]
	if deep == 0 {
		return []expr.Expr{expr.Const(d.below(2) == 0), expr.Bit(name), expr.Rise(name), expr.Fall(name)}[d.below(4)]
	}
	a, b := d.expression(names, deep-1), d.expression(names, deep-1)
	return []expr.Expr{a, expr.Not{Of: a}, expr.And{a, b}, expr.Or{a, b, a}}[d.below(4)]
}

func (d *draw) program() Program {
	all := []Name{{"in", Input, 0}, {"x_1", Input, 0}, {"m", Coil, 0}, {"setm", Coil, 0}, {"t", Timer, 1 + d.below(7)}, {"c", Counter, 1 + d.below(7)}}
	heads := []Rung{{Sets, "m", nil}, {Set, "setm", nil}, {Reset, "m", nil}, {Run, "t", nil}, {Count, "c", nil}, {Zero, "c", nil}}
	names := []string{"in", "x_1", "m", "setm", "t", "c"}
	turned := d.below(len(all))
	p := Program{Names: append(all[turned:len(all):len(all)], all[:turned]...)}
	for range d.below(9) {
		r := heads[d.below(len(heads))]
		r.If = d.expression(names, d.below(4))
		p.Rungs = append(p.Rungs, r)
	}
	return p
}

func TestWhatTextTellsIsThatAgain(t *testing.T) {
	d := draw(1)
	for range 300 {
		p := d.program()
		if err := Check(p); err != nil {
			t.Fatalf("Check: %s", told(err))
		}
		text := Text(p)
		got, err := Parse(text)
		if err != nil || !reflect.DeepEqual(got, p) {
			t.Fatalf("Parse of %q: %s, %v", text, told(err), got)
		}
	}
}

// Whatever bytes there are, Parse ends, and what it takes may be.
func TestParseTakesAnyBytes(t *testing.T) {
	d := draw(2)
	signs := "abm \n=\t\x00\xff!&|()^~01-9_" + "\n\n"
	for range 3_000 {
		b := []byte(Text(d.program()))
		for range d.below(3) {
			b[d.below(len(b))] = signs[d.below(len(signs))]
		}
		p, err := Parse(string(b))
		if err == nil && Check(p) != nil {
			t.Fatalf("Parse of %q: a program that may not be", b)
		}
	}
}
