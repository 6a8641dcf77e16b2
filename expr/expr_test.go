package expr

import (
	"reflect"
	"slices"
	"strings"
	"testing"
)

// draw gives numbers that look drawn, the same each time.
type draw uint64

func (d *draw) below(n int) int {
	*d = *d*6364136223846793005 + 1442695040888963407
	return int(uint64(*d>>33) % uint64(n))
}

var someNames = []string{"a", "b", "c"}

// drawn is an expression that is put together of all seven types.
func drawn(d *draw, deep int) Expr {
	name := someNames[d.below(len(someNames))]
	if deep == 0 || d.below(5) == 0 {
		switch d.below(8) {
		case 0:
			return Const(d.below(2) == 0)
		case 1:
			return Rise(name)
		case 2:
			return Fall(name)
		}
		return Bit(name)
	}
	if d.below(3) == 0 {
		return Not{drawn(d, deep-1)}
	}
	l := make([]Expr, 2+d.below(3))
	for i := range l {
		l[i] = drawn(d, deep-1)
	}
	if d.below(2) == 0 {
		return And(l)
	}
	return Or(l)
}

// among tells which of someNames are true: bit k is the k-th.
func among(bits int) func(string) bool {
	return func(name string) bool { return bits>>slices.Index(someNames, name)&1 == 1 }
}

func parsed(t *testing.T, text string) Expr {
	t.Helper()
	e, err := Parse(text)
	if err != nil {
		t.Fatalf("Parse(%q): %v", text, err)
	}
	return e
}

// nested is an expression of so many levels, of the kinds in turn.
func nested(levels int, around ...func(Expr) Expr) Expr {
	e := Expr(Bit("a"))
	for i := range levels {
		e = around[i%len(around)](e)
	}
	return e
}

func notOf(e Expr) Expr { return Not{e} }
func andOf(e Expr) Expr { return And{e, Bit("b")} }
func orOf(e Expr) Expr  { return Or{Rise("c"), e} }

// foreign is an Expr of another package's making.
type foreign struct{ text *string }

func (f foreign) Text() string { return *f.text }

// 1.1

func TestName(t *testing.T) {
	good := []string{"a", "z", "a0", "z9", "a_", "a_b", "abcdefgh", "a1234567", "inputs", "inpu", "coi", "sets", "rset", "zero0", "zeros", "counte"}
	for _, s := range good {
		if !Name(s) {
			t.Errorf("Name(%q) is false", s)
		}
	}
	bad := []string{"", "abcdefghi", "0", "0a", "9", "_", "_a", "A", "aB", "a b", " a", "a ", "a-b", "a\x00", "é", "aé", "a{", "a`", "a/", "a:", "`a", "{",
		"input", "coil", "timer", "counter", "set", "reset", "run", "count", "zero"}
	for _, s := range bad {
		if Name(s) {
			t.Errorf("Name(%q) is true", s)
		}
	}
}

// 1.3

func TestTextOfEachType(t *testing.T) {
	for _, c := range []struct {
		e    Expr
		want string
	}{
		{Const(true), "1"},
		{Const(false), "0"},
		{Bit("ab_1"), "ab_1"},
		{Rise("ab"), "^ab"},
		{Fall("ab"), "~ab"},
		{Not{Bit("a")}, "!a"},
		{Not{Not{Rise("a")}}, "!!^a"},
		{Not{Const(true)}, "!1"},
		{Not{And{Bit("a"), Bit("b")}}, "!(a & b)"},
		{Not{Or{Bit("a"), Bit("b")}}, "!(a | b)"},
		{And{Bit("a"), Fall("b"), Const(false)}, "a & ~b & 0"},
		{And{And{Bit("a"), Bit("b")}, Bit("c")}, "(a & b) & c"},
		{And{Bit("a"), And{Bit("b"), Bit("c")}}, "a & (b & c)"},
		{And{Bit("a"), Or{Bit("b"), Bit("c")}}, "a & (b | c)"},
		{And{Not{Bit("a")}, Not{Or{Bit("b"), Bit("c")}}}, "!a & !(b | c)"},
		{Or{And{Bit("a"), Bit("b")}, Bit("c")}, "a & b | c"},
		{Or{Bit("a"), And{Bit("b"), Bit("c")}}, "a | b & c"},
		{Or{Or{Bit("a"), Bit("b")}, Bit("c")}, "(a | b) | c"},
		{Or{Bit("a"), Or{Bit("b"), Bit("c")}}, "a | (b | c)"},
		{Or{Not{And{Bit("a"), Bit("b")}}, Rise("c")}, "!(a & b) | ^c"},
	} {
		if got := Text(c.e); got != c.want {
			t.Errorf("Text is %q, want %q", got, c.want)
		}
		if got := c.e.Text(); got != c.want {
			t.Errorf("its own Text is %q, want %q", got, c.want)
		}
	}
}

func TestTextOfNil(t *testing.T) {
	if got := Text(nil); got != "" {
		t.Errorf("Text(nil) is %q", got)
	}
}

func TestTextIsReadAgain(t *testing.T) {
	d := draw(1)
	for range 3000 {
		e := drawn(&d, d.below(6))
		text := Text(e)
		if len(text) > maxText {
			continue
		}
		if got := parsed(t, text); !reflect.DeepEqual(got, e) {
			t.Fatalf("%q is read as %#v, want %#v", text, got, e)
		}
	}
}

func TestEvalOfEachType(t *testing.T) {
	// Columns: neither is nor was, is alone, was alone, both.
	for text, want := range map[string]string{
		"0":                  "0000",
		"1":                  "1111",
		"a":                  "0101",
		"^a":                 "0100",
		"~a":                 "0010",
		"!a":                 "1010",
		"!^a":                "1011",
		"!!a":                "0101",
		"a & 1":              "0101",
		"a & 0":              "0000",
		"a | 0":              "0101",
		"a | 1":              "1111",
		"^a | ~a":            "0110",
		"^a & ~a":            "0000",
		"1 & 1 & a":          "0101",
		"0 | 0 | ~a":         "0010",
		"!a & !^a & !~a":     "1000",
		"1 | 0 & 0":          "1111",
		"(1 | 0) & 0":        "0000",
		"!(a & ^a) & !0 | 0": "1011",
	} {
		e := parsed(t, text)
		got := ""
		for k := range 4 {
			if Eval(e, among(k&1), among(k>>1)) {
				got += "1"
			} else {
				got += "0"
			}
		}
		if got != want {
			t.Errorf("%s says %s, want %s", text, got, want)
		}
	}
}

func TestEvalAsksByName(t *testing.T) {
	e := parsed(t, "a & !b | ^c")
	for is := range 8 {
		for was := range 8 {
			want := is&1 == 1 && is&2 == 0 || is&4 == 4 && was&4 == 0
			if got := Eval(e, among(is), among(was)); got != want {
				t.Errorf("is %d, was %d: %v", is, was, got)
			}
		}
	}
}

// 1.4

func TestNamesEdgesSize(t *testing.T) {
	for _, c := range []struct {
		text         string
		names, edges []string
		size         int
	}{
		{"0", nil, nil, 1},
		{"a", []string{"a"}, nil, 1},
		{"^a", []string{"a"}, []string{"a"}, 1},
		{"~a", []string{"a"}, []string{"a"}, 1},
		{"!!a", []string{"a"}, nil, 3},
		{"((a))", []string{"a"}, nil, 1},
		{"a & a & a", []string{"a"}, nil, 4},
		{"b | a", []string{"a", "b"}, nil, 3},
		{"^b | ~a | ^b | c", []string{"a", "b", "c"}, []string{"a", "b"}, 5},
		{"a & ^a", []string{"a"}, []string{"a"}, 3},
		{"z & a_ & aa & a1 & a & ab", []string{"a", "a1", "a_", "aa", "ab", "z"}, nil, 7},
		{"!(a & b) | ^c", []string{"a", "b", "c"}, []string{"c"}, 6},
		{"(a & (b | ~d)) & !c", []string{"a", "b", "c", "d"}, []string{"d"}, 8},
	} {
		e := parsed(t, c.text)
		if got := Names(e); !slices.Equal(got, c.names) {
			t.Errorf("Names of %s are %v", c.text, got)
		}
		if got := Edges(e); !slices.Equal(got, c.edges) {
			t.Errorf("Edges of %s are %v", c.text, got)
		}
		if got := Size(e); got != c.size {
			t.Errorf("Size of %s is %d, want %d", c.text, got, c.size)
		}
	}
}

func TestNamesAreTheCallers(t *testing.T) {
	e := parsed(t, "b & ^a")
	names, edges := Names(e), Edges(e)
	names[0], names[1], edges[0] = "x", "y", "z"
	if got := Names(e); !slices.Equal(got, []string{"a", "b"}) {
		t.Errorf("Names are %v", got)
	}
	if got := Edges(e); !slices.Equal(got, []string{"a"}) {
		t.Errorf("Edges are %v", got)
	}
}

// Rules that hold everywhere

func TestNothingPanics(t *testing.T) {
	text := "x"
	never := func(string) bool { panic("never") }
	for _, e := range []Expr{
		nil, Not{}, And(nil), Or(nil), And{}, Or{}, And{nil}, Or{nil, nil}, And{Not{}, Or{nil, Bit("a")}}, Bit(""), Rise(""), Fall("!"),
		(*Not)(nil), (*And)(nil), (*Const)(nil), &Not{Bit("a")}, And{(*Bit)(nil), Bit("a")}, foreign{}, foreign{&text}, Not{foreign{}}, Or{foreign{&text}, foreign{}},
	} {
		Text(e)
		Eval(e, nil, nil)
		Eval(e, never, never)
		Names(e)
		Edges(e)
		Size(e)
		Tidy(e)
	}
}

func TestEvalWithoutFunctions(t *testing.T) {
	for text, want := range map[string]bool{"a": false, "!a": true, "^a": false, "~a": false, "!a & 1": true} {
		if got := Eval(parsed(t, text), nil, nil); got != want {
			t.Errorf("%s says %v", text, got)
		}
	}
	if !Eval(Rise("a"), among(1), nil) || !Eval(Fall("a"), nil, among(1)) {
		t.Error("the one function is not asked")
	}
}

func TestDeepest(t *testing.T) {
	const most = 1 << 16
	all := func(string) bool { return true }
	for _, c := range []struct {
		e             Expr
		text          string
		tidy          string
		size          int
		says          bool
		names, edges  []string
		saysWithoutIs bool
	}{
		{nested(most-1, notOf), strings.Repeat("!", most-1) + "a", "!a", most, false, []string{"a"}, nil, true},
		{nested(most-1, andOf), strings.Repeat("(", most-2) + "a & b" + strings.Repeat(") & b", most-2), "a & b", 2*most - 1, true, []string{"a", "b"}, nil, false},
		{nested(most-1, orOf), strings.Repeat("^c | (", most-2) + "^c | a" + strings.Repeat(")", most-2), "^c | a", 2*most - 1, true, []string{"a", "c"}, []string{"c"}, false},
	} {
		if got := Text(c.e); got != c.text {
			t.Errorf("Text is %.40q..", got)
		}
		if got := Text(Tidy(c.e)); got != c.tidy {
			t.Errorf("Tidy is %.40q..", got)
		}
		if got := Size(c.e); got != c.size {
			t.Errorf("Size is %d, want %d", got, c.size)
		}
		if Eval(c.e, all, nil) != c.says || Eval(c.e, nil, nil) != c.saysWithoutIs {
			t.Errorf("Eval of %.40q.. says otherwise", c.text)
		}
		if !slices.Equal(Names(c.e), c.names) || !slices.Equal(Edges(c.e), c.edges) {
			t.Errorf("names are %v, edges %v", Names(c.e), Edges(c.e))
		}
	}
	turns := nested(most-1, andOf, orOf)
	if got := Tidy(turns); Size(got) != Size(turns) || Text(got) != Text(turns) {
		t.Error("Tidy of And and Or in turns is not itself")
	}
}
