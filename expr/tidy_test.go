package expr

import (
	"reflect"
	"strconv"
	"testing"
)

// 1.5

func TestTidy(t *testing.T) {
	for text, want := range map[string]string{
		"0": "0", "1": "1", "a": "a", "^a": "^a", "~a": "~a",
		"!0": "1", "!1": "0", "!a": "!a", "!!a": "a", "!!!a": "!a", "!^a": "!^a", "!(a & 1)": "!a", "!(!a | 0)": "a", "!(a & !a)": "1", "!!(a & a)": "a",
		"!(a & b)": "!(a & b)",
		"a & 1":    "a", "1 & a": "a", "1 & 1": "1", "a & 0": "0", "0 & a": "0", "a & b & 0": "0",
		"a | 0": "a", "0 | a": "a", "0 | 0": "0", "a | 1": "1", "1 | a": "1", "a | b | 1": "1",
		"a & a": "a", "a | a": "a", "b & a & b": "b & a", "b | a | b": "b | a",
		"a & !!a & 1": "a",
		"(a & b) & c": "a & b & c", "a & (b & c)": "a & b & c", "(b & a) & (a & c)": "b & a & c", "(a & b) & a": "a & b",
		"(a | b) | c": "a | b | c", "a | (b | a)": "a | b",
		"(a | b) & c": "(a | b) & c", "a & b | c": "a & b | c", "(a | b) & (a | b)": "a | b", "a & b | a & b": "a & b",
		"(a | b) & (b | a)": "(a | b) & (b | a)",
		"a & !a":            "0", "!a & a": "0", "a | !a": "1", "!a | b | a": "1", "a & (b & !a)": "0", "(a & b) & !!!a": "0",
		"(a | b) & !(a | b)": "0", "!(a | b) & (a | b)": "0", "!(a & b) | a & b": "1", "a & b | !(a & b)": "1",
		"!(a & b) & a & b":       "!(a & b) & a & b",
		"a & ^a & !^a":           "0",
		"^a & ~a":                "^a & ~a",
		"a & (b | !b)":           "a",
		"a | b & !b":             "a",
		"a & (b | 1) & !(c & 0)": "a",
		"!!(a & b) & c":          "a & b & c",
		"(a & b | 0) & c":        "a & b & c",
		"(a & b | 0) & (1 & a)":  "a & b",
		"(0 | a) & (1 & !a)":     "0",
		"a & (b & 0 | !(a | 0))": "0",
	} {
		if got := Text(Tidy(parsed(t, text))); got != want {
			t.Errorf("Tidy of %s is %s, want %s", text, got, want)
		}
	}
}

// told is Tidy as the document tells it, by texts.
func told(e Expr) Expr {
	switch x := e.(type) {
	case Not:
		return toldNot(told(x.Of))
	case And:
		l, over := toldParts(x, true)
		if over {
			return Const(false)
		}
		if len(l) < 2 {
			return append(l, Const(true))[0]
		}
		return And(l)
	case Or:
		l, over := toldParts(x, false)
		if over {
			return Const(true)
		}
		if len(l) < 2 {
			return append(l, Const(false))[0]
		}
		return Or(l)
	}
	return e
}

func toldNot(of Expr) Expr {
	switch x := of.(type) {
	case Const:
		return !x
	case Not:
		return x.Of
	}
	return Not{of}
}

func toldParts(l []Expr, and bool) (left []Expr, over bool) {
	there := map[string]bool{}
	for _, part := range l {
		part = told(part)
		one := []Expr{part}
		if x, ok := part.(And); ok && and {
			one = x
		}
		if x, ok := part.(Or); ok && !and {
			one = x
		}
		for _, x := range one {
			other := Expr(Not{x})
			if n, ok := x.(Not); ok {
				other = n.Of
			}
			c, isConst := x.(Const)
			switch {
			case isConst:
				over = over || bool(c) != and
			case there[Text(x)]:
			case there[Text(other)]:
				over = true
			default:
				there[Text(x)] = true
				left = append(left, x)
			}
		}
	}
	return left, over
}

func TestTidyAsTold(t *testing.T) {
	d := draw(5)
	for range 5000 {
		e := drawn(&d, d.below(6))
		if got, want := Tidy(e), told(e); !reflect.DeepEqual(got, want) {
			t.Fatalf("Tidy of %s is %s, want %s", Text(e), Text(got), Text(want))
		}
	}
}

func TestTidySaysTheSame(t *testing.T) {
	d := draw(9)
	for range 2000 {
		e := drawn(&d, d.below(5))
		tidy := Tidy(e)
		if Size(tidy) > Size(e) {
			t.Fatalf("Tidy of %s is greater: %s", Text(e), Text(tidy))
		}
		for k := range 64 {
			if Eval(e, among(k&7), among(k>>3)) != Eval(tidy, among(k&7), among(k>>3)) {
				t.Fatalf("Tidy of %s says something else: %s", Text(e), Text(tidy))
			}
		}
	}
}

func TestTidyLeavesWhatItIsGiven(t *testing.T) {
	room := []Expr{And{Bit("b"), Bit("a")}, Not{Not{Bit("a")}}, Const(true), Bit("c"), Bit("d")}
	given := And(room[:3])
	before := Text(And(room))
	got := Tidy(given).(And)
	got[0], got[1] = Bit("x"), Bit("y")
	if after := Text(And(room)); after != before {
		t.Errorf("%s has become %s", before, after)
	}
	if again := Text(Tidy(given)); again != "b & a" {
		t.Errorf("again it is %s", again)
	}
}

func TestTidySharesNoLists(t *testing.T) {
	part := And{Bit("a"), Bit("b")}
	got := Tidy(Or{part, And{Bit("c"), Not{part}}, Bit("d")}).(Or)
	got[0].(And)[0] = Bit("x")
	if text := Text(got); text != "x & b | c & !(a & b) | d" {
		t.Errorf("it is %s", text)
	}
	if Text(part) != "a & b" {
		t.Errorf("what was given is %s", Text(part))
	}
}

func TestTidyOfNil(t *testing.T) {
	if Tidy(nil) != nil {
		t.Error("Tidy of nil is not nil")
	}
}

func TestTidyOfManyParts(t *testing.T) {
	const many = 1 << 16
	e := Expr(Bit("a"))
	for i := range many - 1 {
		e = And{e, Bit("b" + strconv.Itoa(i))}
	}
	if got := Tidy(e).(And); len(got) != many || got[0] != Bit("a") || got[many-1] != Bit("b65534") {
		t.Errorf("there are %d parts", len(got))
	}
}
