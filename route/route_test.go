package route

import (
	"errors"
	"reflect"
	"slices"
	"strconv"
	"strings"
	"testing"

	"signalcabin/api"
	"signalcabin/expr"
	"signalcabin/ladder"
)

// wrong writes an error: its number, and its place, if it has one.
func wrong(err error) string {
	s := strconv.Itoa(int(api.Tell(err)))
	var at *api.At
	if errors.As(err, &at) {
		s += " at " + strconv.Itoa(at.Place)
	}
	return s
}

func at(what api.Errno, place int) string { return wrong(&api.At{Err: what, Place: place}) }

// way reads a route: its sections, and points with + or - behind: "0 1 : 0+ 1-".
func way(text string) Route {
	var r Route
	sections, points, _ := strings.Cut(text, ":")
	for _, word := range strings.Fields(sections) {
		n, _ := strconv.Atoi(word)
		r.Sections = append(r.Sections, n)
	}
	for _, word := range strings.Fields(points) {
		n, _ := strconv.Atoi(word[:len(word)-1])
		r.Points = append(r.Points, Point{n, strings.HasSuffix(word, "+")})
	}
	return r
}

func table(sections, points int, routes ...string) Table {
	t := Table{Sections: sections, Points: points}
	for _, text := range routes {
		t.Routes = append(t.Routes, way(text))
	}
	return t
}

func lines(l ...string) string { return strings.Join(l, "\n") + "\n" }

func TestTablesThatMayBe(t *testing.T) {
	for i, c := range []Table{
		table(1, 0, "0 :"),
		table(3, 0, "0 :", "1 :", "2 :"),
		table(3, 2, "2 0 1 : 1+ 0-"),
		table(3, 2, "0 : 0+", "0 : 0+", "0 : 0+"),
		table(1, 2, "0 : 0- 1-", "0 : 1+ 0+"),
		table(2, 1, "1 : 0-", "0 1 :"),
	} {
		if err := Check(c); err != nil {
			t.Errorf("table %d: %s", i, wrong(err))
		}
	}
}

func wrongTables() map[string]struct {
	table Table
	want  string
} {
	type c = struct {
		table Table
		want  string
	}
	limit := wrong(api.ErrLimit)
	return map[string]c{
		"nothing":                                      {Table{}, limit},
		"no sections":                                  {table(0, 0, "0 :"), limit},
		"sections below 0":                             {table(-1, 0, "0 :"), limit},
		"4 sections":                                   {table(4, 0, "0 :"), limit},
		"points below 0":                               {table(1, -1, "0 :"), limit},
		"3 points":                                     {table(1, 3, "0 :"), limit},
		"no routes":                                    {table(1, 0), limit},
		"4 routes":                                     {table(1, 0, "0 :", "0 :", "0 :", "0 :"), limit},
		"4 routes, all wrong":                          {table(1, 0, ":", ":", ":", ":"), limit},
		"4 sections, and a route wrong":                {table(4, 0, ":"), limit},
		"3 points, and a route wrong":                  {table(1, 3, "9 :"), limit},
		"no section":                                   {table(1, 2, ": 0+"), at(api.ErrNone, 0)},
		"no section, in the last route":                {table(1, 0, "0 :", "0 :", ":"), at(api.ErrNone, 2)},
		"no section, and a point not there":            {table(1, 0, ": 0+"), at(api.ErrNone, 0)},
		"no section, and a point twice":                {table(1, 1, ": 0+ 0+"), at(api.ErrNone, 0)},
		"a section not there":                          {table(2, 0, "0 :", "2 :"), at(api.ErrRange, 1)},
		"a section below 0":                            {table(2, 0, "0 -1 :"), at(api.ErrRange, 0)},
		"the last section not there":                   {table(2, 0, "0 1 2 :"), at(api.ErrRange, 0)},
		"a point not there":                            {table(2, 1, "0 : 0+", "1 : 1-"), at(api.ErrRange, 1)},
		"a point below 0":                              {table(2, 1, "0 : -1+"), at(api.ErrRange, 0)},
		"a point, where there is none":                 {table(2, 0, "0 : 0+"), at(api.ErrRange, 0)},
		"the last point not there":                     {table(1, 2, "0 : 0+ 1+ 2+"), at(api.ErrRange, 0)},
		"a section twice":                              {table(2, 0, "0 :", "1 1 :"), at(api.ErrTwice, 1)},
		"a section twice, one between":                 {table(3, 0, "2 0 2 :"), at(api.ErrTwice, 0)},
		"a point twice":                                {table(1, 2, "0 : 1+ 1+"), at(api.ErrTwice, 0)},
		"a point twice, otherwise":                     {table(1, 2, "0 : 1+ 0- 1-"), at(api.ErrTwice, 0)},
		"a section twice, ahead of one not there":      {table(1, 0, "0 0 1 :"), at(api.ErrRange, 0)},
		"a section twice, and a point not there":       {table(1, 0, "0 0 : 0+"), at(api.ErrRange, 0)},
		"a point twice, and one not there":             {table(1, 1, "0 : 0+ 0+ 1+"), at(api.ErrRange, 0)},
		"a section twice, then a route without":        {table(1, 0, "0 0 :", ":"), at(api.ErrTwice, 0)},
		"a section not there, then a route without":    {table(1, 0, "1 :", ":"), at(api.ErrRange, 0)},
		"a section twice behind a route that may be":   {table(1, 0, "0 :", "0 0 :", "7 :"), at(api.ErrTwice, 1)},
		"a section not there that others have as well": {table(1, 0, "0 :", "0 :", "1 :"), at(api.ErrRange, 2)},
	}
}

func TestTablesThatMayNotBe(t *testing.T) {
	for name, c := range wrongTables() {
		if got := wrong(Check(c.table)); got != c.want {
			t.Errorf("%s: Check: %s, not %s", name, got, c.want)
		}
		p, err := Ladder(c.table)
		if got := wrong(err); got != c.want || p.Names != nil || p.Rungs != nil {
			t.Errorf("%s: Ladder: %v, %s, not %s", name, p, got, c.want)
		}
		e, err := Safe(c.table)
		if got := wrong(err); got != c.want || e != nil {
			t.Errorf("%s: Safe: %v, %s, not %s", name, e, got, c.want)
		}
	}
}

// A section and a point of one number are not one thing named twice.
func TestSectionsAreNoPoints(t *testing.T) {
	if err := Check(table(2, 2, "0 1 : 0+ 1+")); err != nil {
		t.Error(wrong(err))
	}
	if Clash(way("0 : 1+"), way("1 : 0-")) {
		t.Error("a section clashes with a point")
	}
}

func TestClash(t *testing.T) {
	for _, c := range []struct {
		a, b string
		want bool
	}{
		{"0 :", "1 :", false},
		{"0 :", "0 :", true},
		{"0 1 :", "2 1 :", true},
		{"0 1 :", "2 0 :", true},
		{"0 :", "1 2 0 :", true},
		{"0 2 :", "1 :", false},
		{"0 : 0+", "1 : 0+", false},
		{"0 : 0-", "1 : 0-", false},
		{"0 : 0+", "1 : 0-", true},
		{"0 : 0-", "1 : 0+", true},
		{"0 : 0+", "1 : 1-", false},
		{"0 : 0+ 1+", "1 : 1- 0+", true},
		{"0 : 0+ 1+", "1 : 1+ 0+", false},
		{"0 : 0+", "0 : 0+", true},
		{"0 : 0+", "1 :", false},
		// Of routes that no table would let be, it says as much.
		{":", ":", false},
		{":", "0 :", false},
		{": 0+", ": 0-", true},
		{": 0+", ": 0+", false},
		{": 0+ 0-", ": 0+", true},
		{": 0+ 0-", ": 0+ 0-", true},
		{"-5 :", "9 -5 :", true},
		{"77 : 9+", "78 : 9-", true},
		{"77 : -9+", "78 : 9-", false},
	} {
		a, b := way(c.a), way(c.b)
		if Clash(a, b) != c.want || Clash(b, a) != c.want {
			t.Errorf("%q and %q: %v, %v, not %v", c.a, c.b, Clash(a, b), Clash(b, a), c.want)
		}
	}
	if Clash(Route{}, Route{}) {
		t.Error("nothing clashes with nothing")
	}
}

func TestLadder(t *testing.T) {
	for i, c := range []struct {
		table Table
		want  string
	}{
		{table(1, 0, "0 :"), lines(
			"input a0", "input b0", "coil l0",
			"reset l0 = !a0 & !b0",
			"set l0 = a0 & !b0",
		)},
		// Points that no route wants have names, but no rungs; so have sections that none goes over.
		{table(3, 2, "1 :"), lines(
			"input a0", "input b0", "input b1", "input b2", "coil l0", "coil p0", "coil p1",
			"reset l0 = !a0 & !b1",
			"set l0 = a0 & !b1",
		)},
		// Sections in the order of the route; the others that clash in theirs.
		{table(3, 2, "2 0 : 1+", "1 : 1- 0+", "0 1 2 : 0-"), lines(
			"input a0", "input a1", "input a2", "input b0", "input b1", "input b2",
			"coil l0", "coil l1", "coil l2", "coil p0", "coil p1",
			"reset l0 = !a0 & !b2 & !b0",
			"reset l1 = !a1 & !b1",
			"reset l2 = !a2 & !b0 & !b1 & !b2",
			"set l0 = a0 & !b2 & !b0 & !l1 & !l2",
			"set l1 = a1 & !b1 & !l0 & !l2",
			"set l2 = a2 & !b0 & !b1 & !b2 & !l0 & !l1",
			"set p0 = l1",
			"reset p0 = l2",
			"set p1 = l0",
			"reset p1 = l1",
		)},
		// Nothing clashes; more than one want a point alike; none wants it otherwise.
		{table(3, 2, "0 : 0+ 1-", "1 : 1- 0+", "2 : 1-"), lines(
			"input a0", "input a1", "input a2", "input b0", "input b1", "input b2",
			"coil l0", "coil l1", "coil l2", "coil p0", "coil p1",
			"reset l0 = !a0 & !b0",
			"reset l1 = !a1 & !b1",
			"reset l2 = !a2 & !b2",
			"set l0 = a0 & !b0",
			"set l1 = a1 & !b1",
			"set l2 = a2 & !b2",
			"set p0 = l0 | l1",
			"reset p1 = l0 | l1 | l2",
		)},
		// Only the first and the last clash.
		{table(2, 1, "0 : 0-", "1 :", "0 : 0+"), lines(
			"input a0", "input a1", "input a2", "input b0", "input b1",
			"coil l0", "coil l1", "coil l2", "coil p0",
			"reset l0 = !a0 & !b0",
			"reset l1 = !a1 & !b1",
			"reset l2 = !a2 & !b0",
			"set l0 = a0 & !b0 & !l2",
			"set l1 = a1 & !b1",
			"set l2 = a2 & !b0 & !l0",
			"set p0 = l2",
			"reset p0 = l0",
		)},
	} {
		p, err := Ladder(c.table)
		if err != nil || ladder.Text(p) != c.want {
			t.Errorf("table %d: %s, %s", i, ladder.Text(p), wrong(err))
		}
		isParsed(t, p, c.want)
	}
}

// isParsed: a program is what its text tells, part by part: so And and Or of one alone are that.
func isParsed(t *testing.T, p ladder.Program, text string) {
	t.Helper()
	if want, err := ladder.Parse(text); err != nil || !reflect.DeepEqual(p, want) {
		t.Errorf("%q: %#v, not %#v", text, p, want)
	}
}

func TestSafe(t *testing.T) {
	for i, c := range []struct {
		table Table
		want  string
	}{
		{table(1, 0, "0 :"), "1"},
		{table(3, 2, "0 :", "1 :", "2 :"), "1"},
		{table(1, 0, "0 :", "0 :"), "!(l0 & l1)"},
		{table(2, 0, "0 :", "1 :", "0 :"), "!(l0 & l2)"},
		{table(1, 0, "0 :", "0 :", "0 :"), "!(l0 & l1) & !(l0 & l2) & !(l1 & l2)"},
		{table(1, 1, "0 : 0+"), "(!l0 | p0) & (!l0 | ^l0 | !(^p0 | ~p0))"},
		{table(1, 2, "0 : 1-"), "(!l0 | !p1) & (!l0 | ^l0 | !(^p1 | ~p1))"},
		// Points in the order of the route; of each both ahead of the next one.
		{table(1, 2, "0 : 1- 0+"), "(!l0 | !p1) & (!l0 | ^l0 | !(^p1 | ~p1)) & (!l0 | p0) & (!l0 | ^l0 | !(^p0 | ~p0))"},
		// A route's clashes ahead of its points, and all that ahead of the next route.
		{table(3, 1, "0 : 0+", "1 : 0-", "2 : 0+"), "(!l0 | p0) & (!l0 | ^l0 | !(^p0 | ~p0))" +
			" & !(l0 & l1) & (!l1 | !p0) & (!l1 | ^l1 | !(^p0 | ~p0))" +
			" & !(l1 & l2) & (!l2 | p0) & (!l2 | ^l2 | !(^p0 | ~p0))"},
	} {
		e, err := Safe(c.table)
		if err != nil || expr.Text(e) != c.want {
			t.Errorf("table %d: %s, %s", i, expr.Text(e), wrong(err))
		}
		if want, err := expr.Parse(c.want); err != nil || !reflect.DeepEqual(e, want) {
			t.Errorf("table %d: %#v, not %#v", i, e, want)
		}
	}
}

func TestText(t *testing.T) {
	for i, c := range []struct {
		table Table
		want  string
	}{
		{table(3, 2, "0 2 : 1+ 0-", "1 :"), lines("sections 3", "points 2", "route 0 2 : 1+ 0-", "route 1 :")},
		{table(1, 0, "0 :"), lines("sections 1", "points 0", "route 0 :")},
		// Those that may not be are written, too.
		{Table{}, lines("sections 0", "points 0")},
		{table(-3, 12, ":", ": 0+", "-1 -1 10 : -7- -7+"), lines("sections -3", "points 12", "route :", "route : 0+", "route -1 -1 10 : -7- -7+")},
	} {
		if got := Text(c.table); got != c.want {
			t.Errorf("table %d: %q, not %q", i, got, c.want)
		}
	}
}

// Lists that no table would let be are long, but each call ends soon.
func TestLongLists(t *testing.T) {
	const many = 300_000
	var up, down, same Route
	for i := range many {
		up.Sections = append(up.Sections, i)
		up.Points = append(up.Points, Point{i, true})
		down.Sections = append(down.Sections, -1-i)
		down.Points = append(down.Points, Point{-1 - i, false})
		same.Sections = append(same.Sections, 0)
		same.Points = append(same.Points, Point{0, i%2 == 0})
	}
	if Clash(up, down) || Clash(down, up) || !Clash(up, up) || !Clash(same, same) {
		t.Error("Clash")
	}
	if got := wrong(Check(Table{3, 2, []Route{up}})); got != at(api.ErrRange, 0) {
		t.Errorf("all unlike: %s", got)
	}
	if got := wrong(Check(Table{3, 2, []Route{same}})); got != at(api.ErrTwice, 0) {
		t.Errorf("all alike: %s", got)
	}
	if got := len(Text(Table{3, 2, []Route{same}})); got != len(lines("sections 3", "points 2", "route :"))+5*many {
		t.Errorf("Text: %d bytes", got)
	}
	if got := wrong(Check(Table{3, 2, slices.Repeat([]Route{up}, 1000)})); got != wrong(api.ErrLimit) {
		t.Errorf("many routes: %s", got)
	}
}
