package ladder

import (
	"strconv"
	"testing"

	"signalcabin/api"
	"signalcabin/expr"
)

func manyNames(n int) []Name {
	var l []Name
	for i := range n {
		l = append(l, Name{Name: "n" + strconv.Itoa(i), Kind: Coil})
	}
	return l
}

func manyRungs(n int) []Rung {
	var l []Rung
	for range n {
		l = append(l, Rung{Kind: Sets, Name: "n0", If: expr.Const(true)})
	}
	return l
}

func TestCheckLimits(t *testing.T) {
	cases := []struct {
		names, rungs int
		want         string
	}{
		{0, 0, "0"},
		{12, 40, "0"},
		{13, 0, "4"},
		{13, 41, "4"},
		{1, 41, "4"},
		{0, 41, "4"},
		{0, 40, at(api.ErrMissing, 0)},
	}
	for _, c := range cases {
		if got := told(Check(Program{manyNames(c.names), manyRungs(c.rungs)})); got != c.want {
			t.Errorf("%d names, %d rungs: %s, not %s", c.names, c.rungs, got, c.want)
		}
	}
	// Ahead of what is wrong with any name.
	if got := told(Check(Program{Names: make([]Name, 13)})); got != "4" {
		t.Errorf("13 names that are none: %s", got)
	}
	if got := told(Check(Program{Names: make([]Name, 1), Rungs: make([]Rung, 41)})); got != "4" {
		t.Errorf("41 rungs that are none: %s", got)
	}
}

func TestCheckNames(t *testing.T) {
	good := Name{"a", Input, 0}
	cases := []struct {
		names []Name
		want  string
	}{
		{[]Name{good}, "0"},
		{[]Name{good, {"b", Coil, 0}, {"c", Timer, 1}, {"d", Timer, 7}, {"e", Counter, 1}, {"f", Counter, 7}}, "0"},
		{[]Name{{"", Input, 0}}, at(api.ErrName, 0)},
		{[]Name{good, {"A", Input, 0}}, at(api.ErrName, 1)},
		{[]Name{good, {"abcdefghi", Input, 0}}, at(api.ErrName, 1)},
		{[]Name{{"abcdefgh", Input, 0}}, "0"},
		{[]Name{{"zero", Coil, 0}}, at(api.ErrName, 0)},
		{[]Name{{"1a", Coil, 0}}, at(api.ErrName, 0)},
		{[]Name{{"a b", Coil, 0}}, at(api.ErrName, 0)},
		{[]Name{{"a", 0, 0}}, at(api.ErrArg, 0)},
		{[]Name{{"a", 5, 0}}, at(api.ErrArg, 0)},
		{[]Name{{"a", -1, 0}}, at(api.ErrArg, 0)},
		{[]Name{{"a", Input, 1}}, at(api.ErrRange, 0)},
		{[]Name{{"a", Coil, -1}}, at(api.ErrRange, 0)},
		{[]Name{{"a", Coil, 1}}, at(api.ErrRange, 0)},
		{[]Name{{"a", Timer, 0}}, at(api.ErrRange, 0)},
		{[]Name{{"a", Timer, 8}}, at(api.ErrRange, 0)},
		{[]Name{{"a", Timer, -1}}, at(api.ErrRange, 0)},
		{[]Name{{"a", Counter, 0}}, at(api.ErrRange, 0)},
		{[]Name{good, {"c", Counter, 8}}, at(api.ErrRange, 1)},
		{[]Name{good, good}, at(api.ErrTwice, 1)},
		{[]Name{good, {"b", Coil, 0}, {"b", Coil, 0}, {"a", Coil, 0}}, at(api.ErrTwice, 2)},
		{[]Name{{"b", Coil, 0}, good, {"a", Timer, 1}}, at(api.ErrTwice, 2)},
		// Of one name, the one told first; each name wholly ahead of the next one.
		{[]Name{{"-", 9, 9}}, at(api.ErrName, 0)},
		{[]Name{{"a", 9, 9}}, at(api.ErrArg, 0)},
		{[]Name{good, {"a", Input, 9}}, at(api.ErrRange, 1)},
		{[]Name{good, {"a", 9, 0}}, at(api.ErrArg, 1)},
		{[]Name{good, good, {"", 0, 0}}, at(api.ErrTwice, 1)},
		{[]Name{{"a", Timer, 0}, {"", 0, 0}}, at(api.ErrRange, 0)},
	}
	for _, c := range cases {
		if got := told(Check(Program{Names: c.names})); got != c.want {
			t.Errorf("%v: %s, not %s", c.names, got, c.want)
		}
	}
	// Names are wholly ahead of rungs.
	if got := told(Check(Program{[]Name{good, good}, make([]Rung, 1)})); got != at(api.ErrTwice, 1) {
		t.Errorf("a name ahead of a rung: %s", got)
	}
}

func TestCheckRungs(t *testing.T) {
	names := []Name{{"a", Input, 0}, {"m", Coil, 0}, {"t", Timer, 2}, {"c", Counter, 2}}
	yes := expr.Const(true)
	cases := []struct {
		rungs []Rung
		want  string
	}{
		{[]Rung{{Sets, "m", mustRead("a & ^m | ~t & !c")}}, "0"},
		{[]Rung{{0, "m", yes}}, at(api.ErrArg, 4)},
		{[]Rung{{7, "m", yes}}, at(api.ErrArg, 4)},
		{[]Rung{{-1, "m", yes}}, at(api.ErrArg, 4)},
		{[]Rung{{Sets, "m", nil}}, at(api.ErrArg, 4)},
		{[]Rung{{Sets, "q", yes}}, at(api.ErrMissing, 4)},
		{[]Rung{{Sets, "", yes}}, at(api.ErrMissing, 4)},
		{[]Rung{{Sets, "m", yes}, {Sets, "q", yes}}, at(api.ErrMissing, 5)},
		{[]Rung{{Sets, "m", mustRead("q")}}, at(api.ErrMissing, 4)},
		{[]Rung{{Sets, "m", mustRead("^q")}}, at(api.ErrMissing, 4)},
		{[]Rung{{Run, "t", mustRead("a | !(m & ~q)")}}, at(api.ErrMissing, 4)},
		{[]Rung{{Sets, "m", yes}, {Set, "m", yes}, {Reset, "m", mustRead("q & a")}}, at(api.ErrMissing, 6)},
		// Of one rung, the one told first; each rung wholly ahead of the next one.
		{[]Rung{{7, "q", yes}}, at(api.ErrArg, 4)},
		{[]Rung{{Sets, "q", nil}}, at(api.ErrArg, 4)},
		{[]Rung{{Run, "q", mustRead("q")}}, at(api.ErrMissing, 4)},
		{[]Rung{{Run, "m", mustRead("q")}}, at(api.ErrArg, 4)},
		{[]Rung{{Sets, "m", mustRead("q")}, {}}, at(api.ErrMissing, 4)},
	}
	for i, c := range cases {
		if got := told(Check(Program{names, c.rungs})); got != c.want {
			t.Errorf("case %d: %s, not %s", i, got, c.want)
		}
	}
}

// Each kind of rung may be of one kind of name alone.
func TestCheckWhatRungsAreOf(t *testing.T) {
	names := []Name{{"a", Input, 0}, {"m", Coil, 0}, {"t", Timer, 2}, {"c", Counter, 2}}
	of := map[int]string{Sets: "m", Set: "m", Reset: "m", Run: "t", Count: "c", Zero: "c"}
	for kind := Sets; kind <= Zero; kind++ {
		for _, n := range names {
			want := at(api.ErrArg, 4)
			if of[kind] == n.Name {
				want = "0"
			}
			if got := told(Check(Program{names, []Rung{{kind, n.Name, expr.Bit("a")}}})); got != want {
				t.Errorf("a rung of kind %d of %s: %s, not %s", kind, n.Name, got, want)
			}
		}
	}
}
