package ladder

import (
	"errors"
	"slices"
	"strconv"
	"strings"
	"testing"

	"signalcabin/api"
	"signalcabin/expr"
)

// told writes an error: its number, and its place, if it has one.
func told(err error) string {
	s := strconv.Itoa(int(api.Tell(err)))
	var at *api.At
	if errors.As(err, &at) {
		s += " at " + strconv.Itoa(at.Place)
	}
	return s
}

func at(what api.Errno, place int) string {
	return told(&api.At{Err: what, Place: place})
}

func parsed(t *testing.T, lines ...string) Program {
	t.Helper()
	p, err := Parse(strings.Join(lines, "\n"))
	if err != nil {
		t.Fatalf("Parse of %q: %s", lines, told(err))
	}
	return p
}

func mustRead(text string) expr.Expr {
	e, err := expr.Parse(text)
	if err != nil {
		panic(text)
	}
	return e
}

// sample has each kind of name, not in the order of bytes, and each kind of rung.
const sample = "input z\ninput a\ncoil m\ncoil b\ntimer t 3\ncounter c 7\n" +
	"m = a & !z\nset b = ^z | m\nreset b = ~c & (a | 0)\nrun t = 1\ncount c = ^z\nzero c = !(t & a)\n"

func TestKindsAreNumberedFromOne(t *testing.T) {
	if !slices.Equal([]int{Input, Coil, Timer, Counter}, []int{1, 2, 3, 4}) {
		t.Error("kinds of names")
	}
	if !slices.Equal([]int{Sets, Set, Reset, Run, Count, Zero}, []int{1, 2, 3, 4, 5, 6}) {
		t.Error("kinds of rungs")
	}
}

func TestNumber(t *testing.T) {
	p := parsed(t, sample)
	for i, name := range []string{"z", "a", "m", "b", "t", "c"} {
		if got := p.Number(name); got != i {
			t.Errorf("Number of %s: %d, not %d", name, got, i)
		}
	}
	for _, name := range []string{"", "q", "Z", "za", "set"} {
		if got := p.Number(name); got != -1 {
			t.Errorf("Number of %q: %d", name, got)
		}
	}
	if got := (Program{}).Number("a"); got != -1 {
		t.Errorf("Number in nothing: %d", got)
	}
}

func TestKind(t *testing.T) {
	p := parsed(t, sample)
	for kind, want := range [][]int{nil, {0, 1}, {2, 3}, {4}, {5}, nil} {
		if got := p.Kind(kind); !slices.Equal(got, want) {
			t.Errorf("Kind of %d: %v, not %v", kind, got, want)
		}
	}
	mixed := parsed(t, "coil a", "input b", "coil c", "input d", "coil e")
	if got := mixed.Kind(Coil); !slices.Equal(got, []int{0, 2, 4}) {
		t.Errorf("Kind: %v", got)
	}
	if got := mixed.Kind(-1); len(got) != 0 {
		t.Errorf("Kind of -1: %v", got)
	}
	if got := (Program{}).Kind(Input); len(got) != 0 {
		t.Errorf("Kind in nothing: %v", got)
	}
}

func TestEdges(t *testing.T) {
	cases := []struct {
		lines string
		want  []int
	}{
		{sample, []int{0, 5}},
		{"", nil},
		{"input a\ncoil m\nm = a", nil},
		{"input z\ninput a\ncoil m\nm = ^a\nm = ^z", []int{0, 1}},
		{"input a\ncoil m\nm = ^a & ~a\nset m = ~a", []int{0}},
		{"input a\ncoil m\ntimer t 1\nrun t = 0\nm = !(a | !(1 & ~m)) | a & ^t", []int{1, 2}},
		{"input a\ninput b\ncounter c 1\nzero c = ~c\ncount c = a & b", []int{2}},
	}
	for _, c := range cases {
		if got := parsed(t, c.lines).Edges(); !slices.Equal(got, c.want) {
			t.Errorf("Edges of %q: %v, not %v", c.lines, got, c.want)
		}
	}
}

// What no sentence tells of is zero, and nothing panics.
func TestProgramsThatMayNotBe(t *testing.T) {
	a := expr.Rise("a")
	wrong := []Program{
		{Names: []Name{{"a", 9, 0}}, Rungs: []Rung{{9, "a", nil}}},
		{Names: []Name{{"a", -1, 0}}, Rungs: []Rung{{-1, "a", a}}},
		{Names: []Name{{"a", Input, 0}}, Rungs: []Rung{{Sets, "q", a}, {}}},
		{Names: make([]Name, 1000), Rungs: make([]Rung, 1000)},
		{Names: []Name{{"a", Coil, 0}}, Rungs: []Rung{{Sets, "a", expr.And{a, expr.Not{}, nil}}, {Set, "a", nil}}},
	}
	for i, p := range wrong {
		if Check(p) == nil || Text(p) != "" || len(p.Edges()) != 0 {
			t.Errorf("program %d: %s, %q, %v", i, told(Check(p)), Text(p), p.Edges())
		}
		p.Kind(0)
		p.Number("")
	}
	// Of such an expression nothing is said, but each call ends.
	odd := Program{Names: []Name{{"a", Coil, 0}}, Rungs: []Rung{{Sets, "a", expr.And{nil, expr.Not{}, expr.Or{}}}}}
	Check(odd)
	Text(odd)
	odd.Edges()
}

func TestAnswersAreFreshAndArgumentsStay(t *testing.T) {
	p := parsed(t, sample)
	names, rungs := slices.Clone(p.Names), slices.Clone(p.Rungs)
	p.Names = append(make([]Name, 0, 20), p.Names...)
	behind := p.Names[:cap(p.Names)]
	for _, l := range [][]int{p.Kind(Input), p.Edges()} {
		for i := range l {
			l[i] = 77
		}
	}
	Check(p)
	Text(p)
	if got := p.Kind(Input); !slices.Equal(got, []int{0, 1}) {
		t.Errorf("Kind: %v", got)
	}
	if got := p.Edges(); !slices.Equal(got, []int{0, 5}) {
		t.Errorf("Edges: %v", got)
	}
	if !slices.Equal(p.Names, names) || len(p.Rungs) != len(rungs) || behind[len(names)] != (Name{}) {
		t.Error("the program was written into")
	}
	again := parsed(t, sample)
	again.Names[0].Name = "other"
	if parsed(t, sample).Names[0].Name != "z" {
		t.Error("Parse keeps what it answered")
	}
}
